package code

import (
	"bytes"
	"encoding/binary"
	"hash/crc32"
	"math"
	"math/rand"
	"reflect"
	"testing"

	"ambry/api"
)

func num(n uint64) []byte {
	w := NewWriter()
	w.Num(n)
	return w.Bytes()
}

func TestNumAsBytes(t *testing.T) { // P2.1
	for _, c := range []struct {
		n    uint64
		want string
	}{
		{0, "\x00"}, {1, "\x01"}, {127, "\x7f"}, {128, "\x80\x01"}, {300, "\xac\x02"},
		{math.MaxUint64, "\xff\xff\xff\xff\xff\xff\xff\xff\xff\x01"},
	} {
		if got := string(num(c.n)); got != c.want {
			t.Errorf("%d: %x", c.n, got)
		}
	}
	for i := range 64 {
		for _, n := range []uint64{1 << i, 1<<i - 1, 1<<i + 1} {
			if !bytes.Equal(num(n), binary.AppendUvarint(nil, n)) {
				t.Errorf("%d", n)
			}
		}
	}
}

func TestNumsOf64Bits(t *testing.T) { // P2.2
	for _, n := range []uint64{math.MaxUint64, 1 << 63, 1<<63 - 1, 0} {
		r := NewReader(num(n))
		if got := r.Num(); got != n || r.Done() != api.OK {
			t.Errorf("%x: %x", n, got)
		}
	}
}

func TestTextAndFieldsAsBytes(t *testing.T) { // P2.1
	w := NewWriter()
	w.Text(nil)
	w.Text([]byte("abc"))
	w.Fields(nil)
	w.Fields([]api.Field{{Name: "A", Value: "bc"}, {}})
	if got := string(w.Bytes()); got != "\x00\x03abc\x00\x02\x01A\x02bc\x00\x00" {
		t.Errorf("%x", got)
	}
}

func TestBytesAreNewMemory(t *testing.T) {
	w := NewWriter()
	w.Text([]byte("abc"))
	b := w.Bytes()
	b[1] = 'x'
	_ = append(b, 9)
	w.Num(5)
	if string(w.Bytes()) != "\x03abc\x05" {
		t.Error("shared")
	}
	in := []byte("\x03abc")
	r := NewReader(in)
	in[1] = 'x'
	got := r.Text()
	if string(got) != "abc" {
		t.Error("kept what was handed in")
	}
}

func TestReaderFails(t *testing.T) { // P2.2
	for name, b := range map[string]string{
		"nothing":             "",
		"ends ahead":          "\x80",
		"ends ahead, later":   "\xff\xff\xff",
		"eleven bytes":        "\x80\x80\x80\x80\x80\x80\x80\x80\x80\x80\x01",
		"ten bytes, open":     "\xff\xff\xff\xff\xff\xff\xff\xff\xff\xff",
		"65 bits":             "\xff\xff\xff\xff\xff\xff\xff\xff\xff\x02",
		"a last byte of zero": "\x80\x00",
		"and with more":       "\xff\x80\x00",
	} {
		r := NewReader([]byte(b))
		if r.Num() != 0 || r.Done() != api.ErrCode {
			t.Errorf("%s: read", name)
		}
	}
	for name, b := range map[string]string{
		"no length":        "",
		"too short":        "\x03ab",
		"a length too big": "\xff\xff\xff\xff\xff\xff\xff\xff\xff\x01ab",
	} {
		r := NewReader([]byte(b))
		if r.Text() != nil || r.Done() != api.ErrCode {
			t.Errorf("text, %s: read", name)
		}
	}
	for name, b := range map[string]string{
		"no count":         "",
		"a count too big":  "\x02\x00",
		"a name too short": "\x01\x02a",
		"no value":         "\x01\x01a",
		"the second fails": "\x02\x01a\x01b\x01",
	} {
		r := NewReader([]byte(b))
		if l := r.Fields(); l != nil || r.Done() != api.ErrCode {
			t.Errorf("fields, %s: %v", name, l)
		}
	}
}

func TestFailedReaderAnswersNothing(t *testing.T) { // P2.2
	r := NewReader([]byte("\x80\x00\x05\x01a\x01\x01b\x01c"))
	if r.Num() != 0 || r.Num() != 0 || r.Text() != nil || r.Fields() != nil || r.Done() != api.ErrCode {
		t.Error("goes on")
	}
	r = NewReader([]byte("\x02a")) // the text fails; the bytes behind its length would be read
	if r.Text() != nil || r.Num() != 0 || r.Done() != api.ErrCode || r.Done() != api.ErrCode {
		t.Error("goes on")
	}
}

func TestDone(t *testing.T) { // P2.2
	r := NewReader([]byte("\x05\x01a"))
	if r.Done() != api.ErrCode {
		t.Error("bytes are left")
	}
	if r.Num() != 5 || r.Done() != api.ErrCode || string(r.Text()) != "a" || r.Done() != api.OK {
		t.Error("not done")
	}
	if NewReader(nil).Done() != api.OK {
		t.Error("nothing is done at once")
	}
	if r.Num() != 0 || r.Done() != api.ErrCode {
		t.Error("reads behind its end")
	}
}

func TestCrc(t *testing.T) { // P2.3
	if Crc([]byte("123456789")) != 0xcbf43926 || Crc(nil) != 0 {
		t.Error("crc")
	}
	b := make([]byte, 1000)
	rand.New(rand.NewSource(1)).Read(b)
	for n := range b {
		if Crc(b[:n]) != crc32.ChecksumIEEE(b[:n]) {
			t.Fatalf("%d bytes", n)
		}
	}
}

func TestReadBackAndInNoOtherBytes(t *testing.T) { // P2.4
	r := rand.New(rand.NewSource(2))
	for range 200 {
		n := r.Uint64() >> r.Intn(64)
		text := make([]byte, r.Intn(200))
		r.Read(text)
		var l []api.Field
		for range r.Intn(4) {
			l = append(l, api.Field{Name: string(text[:r.Intn(len(text)+1)]), Value: "v"})
		}
		w := NewWriter()
		w.Num(n)
		w.Text(text)
		w.Fields(l)
		b := w.Bytes()
		if !readsAs(b, n, text, l) {
			t.Fatalf("not read back: %x", b)
		}
		for i := range b { // another text isn't the same
			b[i] ^= 1 << r.Intn(8)
			if readsAs(b, n, text, l) {
				t.Fatalf("read from other bytes: %x", b)
			}
			b[i] = w.Bytes()[i]
		}
		if readsAs(b[:len(b)-1], n, text, l) || readsAs(append(b, 0), n, text, l) {
			t.Fatal("read from more or fewer bytes")
		}
	}
}

func readsAs(b []byte, n uint64, text []byte, l []api.Field) bool {
	r := NewReader(b)
	return r.Num() == n && bytes.Equal(r.Text(), text) && reflect.DeepEqual(r.Fields(), l) && r.Done() == api.OK
}
