package sha

import (
	"crypto/sha256"
	"encoding/hex"
	"strings"
	"sync"
	"testing"
)

func TestSumOfKnownTexts(t *testing.T) { // P1.1: the examples of FIPS 180-4, and the chapter's
	for text, want := range map[string]string{
		"":    "e3b0c44298fc1c149afbf4c8996fb92427ae41e4649b934ca495991b7852b855",
		"abc": "ba7816bf8f01cfea414140de5dae2223b00361a396177a9cb410ff61f20015ad",
		"abcdbcdecdefdefgefghfghighijhijkijkljklmklmnlmnomnopnopq": "248d6a61d20638b8e5c026930c3e6039a33ce45964ff2167f6ecedd419db06c1",
		strings.Repeat("a", 1000000):                               "cdc76e5c9914fb9281a1c7e284d73e67f1809a48a497200e046d39ccc7112cd0",
	} {
		sum := Sum([]byte(text))
		if got := hex.EncodeToString(sum[:]); got != want {
			t.Errorf("%d bytes: %s", len(text), got)
		}
	}
}

func TestSumAtEveryLength(t *testing.T) { // P1.1: about the edges of blocks
	b := make([]byte, 400)
	for i := range b {
		b[i] = byte(i * 7)
	}
	for n := range b {
		if Sum(b[:n]) != sha256.Sum256(b[:n]) {
			t.Fatalf("%d bytes", n)
		}
	}
	if Sum(nil) != Sum([]byte{}) {
		t.Error("nil isn't empty")
	}
}

func TestSumLeavesItsText(t *testing.T) {
	b := []byte(strings.Repeat("x", 100))
	Sum(b[:60])
	if string(b) != strings.Repeat("x", 100) {
		t.Error("changed")
	}
}

func TestKeyIsSumOfLengthsAndParts(t *testing.T) { // P1.1
	long := strings.Repeat("l", 70000)
	want := sha256.Sum256([]byte("\x00\x00\x00\x02ab\x00\x00\x00\x00\x00\x01\x11\x70" + long))
	if Key([]string{"ab", "", long}) != want {
		t.Error("key")
	}
	if Key(nil) != Sum(nil) {
		t.Error("no parts")
	}
}

func TestUnlikePartsHaveUnlikeKeys(t *testing.T) { // P1.2
	seen := map[[32]byte]int{}
	for i, parts := range [][]string{nil, {""}, {"", ""}, {"abc"}, {"ab", "c"}, {"a", "bc"}, {"a", "b", "c"}, {"abc", ""}, {"", "abc"}, {"\x00\x00\x00\x01a"}} {
		k := Key(parts)
		if j, ok := seen[k]; ok {
			t.Errorf("%d as %d", i, j)
		}
		seen[k] = i
	}
}

func TestManyAskForTheConstants(t *testing.T) {
	var all sync.WaitGroup
	for range 8 {
		all.Go(func() {
			if Sum([]byte("abc")) != sha256.Sum256([]byte("abc")) {
				t.Error("sum")
			}
		})
	}
	all.Wait()
}
