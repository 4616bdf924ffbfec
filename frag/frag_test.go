package frag

import (
	"bytes"
	"crypto/sha256"
	"encoding/binary"
	"hash/crc32"
	"math"
	"math/rand"
	"reflect"
	"testing"

	"ambry/api"
)

func someKey(c byte) (k api.Key) {
	for i := range k {
		k[i] = c + byte(i)
	}
	return k
}

// byHand puts a fragment together as the chapter tells it.
func byHand(k api.Key, part uint32, last byte, turn uint64, payload []byte) []byte {
	sum := sha256.Sum256(payload)
	b := append([]byte("AMBR"), k[:]...)
	b = binary.BigEndian.AppendUint32(b, part)
	b = append(b, last)
	b = binary.BigEndian.AppendUint32(b, uint32(len(payload)))
	b = append(b, sum[:]...)
	b = binary.BigEndian.AppendUint64(b, turn)
	b = binary.BigEndian.AppendUint32(b, crc32.ChecksumIEEE(b))
	return append(b, payload...)
}

func TestFragAsBytes(t *testing.T) { // P4.1
	f := api.Frag{Key: someKey(1), Part: 0x1122334455, Last: true, Size: 99, Sum: someKey(9), Turn: 0xfedcba9876543210}
	payload := []byte("what is kept")
	b := Frag(f, payload)
	if !bytes.Equal(b, byHand(f.Key, 0x22334455, 1, f.Turn, payload)) {
		t.Errorf("%x", b)
	}
	empty := Frag(api.Frag{}, nil)
	if _, p, e := OpenFrag(empty); len(empty) != 89 || e != api.OK || len(p) != 0 {
		t.Errorf("an empty one: %d bytes, %v", len(empty), e)
	}
	if !bytes.Equal(Frag(api.Frag{Part: -1}, nil), byHand(api.Key{}, math.MaxUint32, 0, 0, nil)) {
		t.Error("lowest 32 bits")
	}
}

func TestFragOfTooMuchPayload(t *testing.T) { // P4.1: at most MaxFrag of its bytes
	long := bytes.Repeat([]byte("z"), api.MaxFrag+1)
	b := Frag(api.Frag{}, long)
	if !bytes.Equal(b, byHand(api.Key{}, 0, 0, 0, long[:api.MaxFrag])) {
		t.Error("not cut")
	}
	if _, p, e := OpenFrag(b); e != api.OK || len(p) != api.MaxFrag {
		t.Error("not read")
	}
}

func TestOpenFrag(t *testing.T) { // P4.1, P4.4
	r := rand.New(rand.NewSource(4))
	for range 100 {
		f := api.Frag{Key: someKey(byte(r.Intn(256))), Part: r.Intn(1 << 32), Last: r.Intn(2) == 0, Turn: r.Uint64()}
		payload := make([]byte, r.Intn(300))
		r.Read(payload)
		b := append(Frag(f, payload), "what stands behind"...)
		got, p, e := OpenFrag(b)
		f.Size, f.Sum = len(payload), sha256.Sum256(payload)
		if e != api.OK || !bytes.Equal(p, payload) || got != f {
			t.Fatalf("%v %v", got, e)
		}
	}
}

func refused(t *testing.T, name string, b []byte) {
	t.Helper()
	if f, p, e := OpenFrag(b); e != api.ErrForm || p != nil || f != (api.Frag{}) {
		t.Errorf("%s: %v %v", name, f, e)
	}
}

func TestOpenFragRefuses(t *testing.T) { // P4.1
	payload := []byte("payload")
	good := byHand(someKey(5), 3, 0, 8, payload)
	for n := range good {
		refused(t, "cut off", good[:n])
	}
	for i := range good {
		for bit := range 8 {
			b := bytes.Clone(good)
			b[i] ^= 1 << bit
			refused(t, "a bit turned", b) // P4.4
		}
	}
	refused(t, "last 2", byHand(someKey(5), 3, 2, 8, payload))
	refused(t, "too long", byHand(someKey(5), 3, 1, 8, make([]byte, api.MaxFrag+1)))
	wrong := bytes.Clone(good)
	copy(wrong, "AMBS")
	binary.BigEndian.PutUint32(wrong[85:], crc32.ChecksumIEEE(wrong[:85]))
	refused(t, "another mark with its Crc", wrong)
	huge := bytes.Clone(good)
	binary.BigEndian.PutUint32(huge[41:], math.MaxUint32)
	binary.BigEndian.PutUint32(huge[85:], crc32.ChecksumIEEE(huge[:85]))
	refused(t, "a size above all", huge)
	refused(t, "nothing", nil)
}

func TestOpenFragAnswersNewMemory(t *testing.T) {
	b := Frag(api.Frag{}, []byte("abc"))
	_, p, _ := OpenFrag(b)
	p[0] = 'x'
	if _, q, e := OpenFrag(b); e != api.OK || string(q) != "abc" {
		t.Error("shared")
	}
	room := append(make([]byte, 0, 200), "abc"...)
	Frag(api.Frag{}, room)
	if room[:4][3] != 0 {
		t.Error("spare room was written")
	}
}

func TestEntry(t *testing.T) { // P4.2
	e := api.Entry{Tag: 0xabc, At: 0x01020304, Sectors: 0x0506, Turn: 0x1122334455667788}
	b := Entry(e)
	if b != [16]byte{1, 2, 3, 4, 5, 6, 0x0a, 0xbc, 0x91, 0x22, 0x33, 0x44, 0x55, 0x66, 0x77, 0x88} {
		t.Errorf("%x", b)
	}
	if got, errno := OpenEntry(b); errno != api.OK || got != e {
		t.Errorf("%v %v", got, errno)
	}
	b = Entry(api.Entry{Tag: 0xffff, Turn: math.MaxUint64, Sectors: 1})
	if got, errno := OpenEntry(b); errno != api.OK || !reflect.DeepEqual(got, api.Entry{Tag: 0xfff, Turn: 1<<63 - 1, Sectors: 1}) {
		t.Errorf("%v %v", got, errno)
	}
}

func TestOpenEntryRefuses(t *testing.T) { // P4.2
	good := Entry(api.Entry{Tag: 5, Sectors: 1, Turn: 7})
	noBit, bigTag, none := good, good, good
	noBit[8] &= 0x7f
	bigTag[6] |= 0x10
	none[5] = 0
	for _, b := range [][16]byte{noBit, bigTag, none, {}} {
		if e, errno := OpenEntry(b); errno != api.ErrForm || e != (api.Entry{}) {
			t.Errorf("%x: %v", b, e)
		}
	}
	if _, errno := OpenEntry(Entry(api.Entry{})); errno != api.ErrForm {
		t.Error("no sectors")
	}
}

func TestSectors(t *testing.T) { // P4.3
	for _, c := range []struct{ payload, size, want int }{
		{0, 64, 2}, {39, 64, 2}, {40, 64, 3}, {0, 89, 1}, {1, 89, 2}, {-7, 89, 1},
		{4096, 4096, 2}, {4007, 4096, 1}, {4008, 4096, 2}, {9999999, 4185, 1},
		{0, 0, 2}, {0, -5, 2}, {0, 63, 2}, {math.MaxInt, math.MaxInt, 1}, {math.MinInt, math.MinInt, 2}, {4096, 64, 66},
	} {
		if got := Sectors(c.payload, c.size); got != c.want {
			t.Errorf("%d, %d: %d", c.payload, c.size, got)
		}
	}
}
