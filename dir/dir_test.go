package dir

import (
	"bytes"
	"math"
	"math/rand"
	"reflect"
	"slices"
	"testing"

	"ambry/api"
	"ambry/frag"
)

// key answers a key of that bucket (of less than 2^32) and tag.
func key(bucket uint32, tag uint16) (k api.Key) {
	k[0], k[1], k[2], k[3] = byte(bucket>>24), byte(bucket>>16), byte(bucket>>8), byte(bucket)
	k[4], k[5] = byte(tag>>8), byte(tag)
	return k
}

func put(t *testing.T, d *Dir, k api.Key, at uint32, sectors uint16, turn uint64) {
	t.Helper()
	if e := d.Insert(k, at, sectors, turn); e != api.OK {
		t.Fatal(e)
	}
}

func TestNewCountsAs(t *testing.T) { // P5.1
	for _, c := range []struct{ buckets, slots, wantB, wantS int }{
		{0, 0, 1, 1}, {-1, -1, 1, 1}, {3, 2, 3, 2}, {4096, 16, 4096, 16}, {4097, 17, 4096, 16}, {math.MaxInt, math.MaxInt, 4096, 16},
	} {
		d := New(c.buckets, c.slots)
		n := 0
		for d.Insert(api.Key{}, 1, 1, 1) == api.OK {
			n++
		}
		if n != c.wantS || len(d.Bytes()) != 12+c.wantB+16*n {
			t.Errorf("%d, %d: %d slots, %d bytes", c.buckets, c.slots, n, len(d.Bytes()))
		}
	}
}

func TestBucketAndTag(t *testing.T) { // P5.1
	d := New(1000, 4)
	k := key(0xfffffffe, 0xabcd)
	if got := d.Bucket(k); got != 0xfffffffe%1000 {
		t.Error(got)
	}
	if got := Tag(k); got != 0xbcd {
		t.Errorf("%x", got)
	}
	if New(1, 1).Bucket(k) != 0 {
		t.Error("one bucket")
	}
}

func TestInsertProbe(t *testing.T) { // P5.2, and the example
	d := New(4, 3)
	put(t, d, key(1, 7), 10, 2, 5)
	put(t, d, key(5, 7), 20, 3, 6) // the same bucket and tag: it may be either's
	put(t, d, key(1, 8), 30, 1, 7)
	put(t, d, key(2, 7), 40, 1, 8)
	want := []api.Entry{{Tag: 7, At: 20, Sectors: 3, Turn: 6}, {Tag: 7, At: 10, Sectors: 2, Turn: 5}}
	if got := d.Probe(key(1, 7)); !slices.Equal(got, want) {
		t.Error(got)
	}
	if d.Probe(key(3, 7)) != nil || d.Probe(key(1, 9)) != nil {
		t.Error("found what isn't there")
	}
	if e := d.Insert(key(1, 1), 50, 1, 9); e != api.ErrDirFull {
		t.Error(e)
	}
	if e := d.Insert(key(1, 1), 50, 0, 9); e != api.ErrForm { // named first
		t.Error(e)
	}
	if d.Insert(key(0, 1), 50, 1, 1<<63) != api.ErrForm || d.Insert(key(0, 1), 50, 0, 1) != api.ErrForm {
		t.Error("wrong entries are taken")
	}
	put(t, d, key(0, 1), math.MaxUint32, math.MaxUint16, 1<<63-1)
	if d.Len() != 5 {
		t.Error(d.Len())
	}
	d.Probe(key(1, 7))[0].At = 99
	if got := d.Probe(key(1, 7)); !slices.Equal(got, want) {
		t.Error("shared")
	}
}

func TestDelete(t *testing.T) { // P5.2
	d := New(1, 8)
	put(t, d, key(0, 1), 10, 1, 1)
	put(t, d, key(0, 1), 20, 1, 2)
	put(t, d, key(0, 2), 10, 1, 3)
	put(t, d, key(0, 1), 10, 1, 4)
	if !d.Delete(key(0, 1), 10) {
		t.Error("not there")
	}
	if got := d.Probe(key(0, 1)); len(got) != 2 || got[0].Turn != 2 || got[1].Turn != 1 {
		t.Error("not the last one", got)
	}
	if !d.Delete(key(0, 1), 10) || d.Delete(key(0, 1), 10) || d.Delete(key(0, 3), 20) || d.Delete(key(0, 2), 20) {
		t.Error("delete")
	}
	if d.Len() != 2 {
		t.Error(d.Len())
	}
	for range 6 {
		put(t, d, key(0, 5), 1, 1, 1) // there is room again
	}
}

func TestPurge(t *testing.T) { // P5.3
	for _, c := range []struct {
		from, to uint32
		turn     uint64
		want     int
	}{
		{10, 13, 9, 1}, {12, 13, 9, 1}, {13, 20, 9, 0}, {0, 10, 9, 0}, {0, 11, 9, 1}, {11, 12, 5, 0}, {11, 12, 6, 1},
		{11, 11, 9, 0}, {13, 10, 9, 0}, {0, math.MaxUint32, math.MaxUint64, 1},
	} {
		d := New(2, 2)
		put(t, d, key(1, 3), 10, 3, 5)
		if got := d.Purge(c.from, c.to, c.turn); got != c.want || d.Len() != 1-c.want {
			t.Errorf("%v: %d", c, got)
		}
	}
	d := New(2, 2)
	put(t, d, key(1, 3), math.MaxUint32, math.MaxUint16, 5) // it ends behind all numbers
	if d.Purge(0, 5, 9) != 0 || d.Purge(math.MaxUint32-1, math.MaxUint32, 9) != 0 {
		t.Error("goes round")
	}
	put(t, d, key(1, 3), 1, math.MaxUint16, 5)
	if d.Purge(60000, 60001, 6) != 1 || d.Len() != 1 {
		t.Error("one of two")
	}
}

func TestAllInOrder(t *testing.T) { // P5.3
	d := New(3, 4)
	for i, b := range []uint32{2, 0, 2, 1, 0} {
		put(t, d, key(b, 1), uint32(i), 1, 1)
	}
	var at []uint32
	for _, e := range d.All() {
		at = append(at, e.At)
	}
	if !slices.Equal(at, []uint32{1, 4, 3, 0, 2}) || d.Len() != 5 || New(3, 3).All() != nil {
		t.Error(at)
	}
}

func TestBytes(t *testing.T) { // P5.4
	d := New(2, 3)
	e := api.Entry{Tag: 1, At: 5, Sectors: 2, Turn: 9}
	put(t, d, key(1, e.Tag), e.At, e.Sectors, e.Turn)
	one := frag.Entry(e)
	want := append([]byte("DIR1\x00\x00\x00\x02\x00\x00\x00\x03\x00\x01"), one[:]...)
	b := d.Bytes()
	if !bytes.Equal(b, want) {
		t.Errorf("%x", b)
	}
	got, errno := Open(b)
	if errno != api.OK || !reflect.DeepEqual(got, d) {
		t.Fatal(errno)
	}
	put(t, got, key(1, 4), 1, 1, 1) // the buckets may be filled as d's
	put(t, got, key(1, 4), 2, 1, 1)
	if got.Insert(key(1, 4), 3, 1, 1) != api.ErrDirFull || d.Len() != 1 {
		t.Error("room")
	}
}

func TestOpenRefuses(t *testing.T) { // P5.4
	d := New(2, 1)
	put(t, d, key(1, 1), 5, 2, 9)
	good := d.Bytes()
	for n := range good {
		if x, e := Open(good[:n]); e != api.ErrForm || x != nil {
			t.Errorf("%d bytes: %v", n, e)
		}
	}
	bad := map[string]func(b []byte) []byte{
		"more":                func(b []byte) []byte { return append(b, 0) },
		"mark":                func(b []byte) []byte { b[3] = '2'; return b },
		"no buckets":          func(b []byte) []byte { b[7] = 0; return b },
		"many buckets":        func(b []byte) []byte { b[4] = 1; return b },
		"no slots":            func(b []byte) []byte { b[11] = 0; return b },
		"many slots":          func(b []byte) []byte { b[11] = 17; return b },
		"more than slots":     func(b []byte) []byte { b[13] = 2; return append(b, b[14:30]...) },
		"an entry's tag":      func(b []byte) []byte { b[20] |= 0x10; return b },
		"an entry's turn":     func(b []byte) []byte { b[22] = 0; return b },
		"an entry's count":    func(b []byte) []byte { b[18], b[19] = 0, 0; return b },
		"no bucket, one told": func(b []byte) []byte { return append([]byte("DIR1\x00\x00\x00\x00\x00\x00\x00\x01"), 0) },
		"no slot, one told":   func(b []byte) []byte { return append([]byte("DIR1\x00\x00\x00\x01\x00\x00\x00\x00"), 0) },
		"4097 buckets, 4096 told": func(b []byte) []byte {
			return append([]byte("DIR1\x00\x00\x10\x01\x00\x00\x00\x01"), make([]byte, 4096)...)
		},
		"4097 buckets": func(b []byte) []byte {
			return append([]byte("DIR1\x00\x00\x10\x01\x00\x00\x00\x01"), make([]byte, 4097)...)
		},
	}
	for name, change := range bad {
		if x, e := Open(change(bytes.Clone(good))); e != api.ErrForm || x != nil {
			t.Errorf("%s: %v", name, e)
		}
	}
}

func TestAgainstList(t *testing.T) { // P5.5: what was put in is found
	r := rand.New(rand.NewSource(5))
	d := New(5, 16)
	type one struct {
		k api.Key
		e api.Entry
	}
	var l []one
	for i := range 5000 {
		k := key(uint32(r.Intn(10)), uint16(r.Intn(3)))
		switch r.Intn(4) {
		case 0:
			j := -1
			at := uint32(r.Intn(30))
			for i, o := range l {
				if d.Bucket(o.k) == d.Bucket(k) && o.e.Tag == Tag(k) && o.e.At == at {
					j = i
				}
			}
			if d.Delete(k, at) != (j >= 0) {
				t.Fatal("delete")
			}
			if j >= 0 {
				l = slices.Delete(l, j, j+1)
			}
		case 1:
			from := uint32(r.Intn(30))
			to, turn, n := from+uint32(r.Intn(4)), uint64(r.Intn(i+1)), len(l)
			l = slices.DeleteFunc(l, func(o one) bool {
				return o.e.Turn < turn && max(o.e.At, from) < min(o.e.At+uint32(o.e.Sectors), to)
			})
			if d.Purge(from, to, turn) != n-len(l) {
				t.Fatal("purge")
			}
		default:
			e := api.Entry{Tag: Tag(k), At: uint32(r.Intn(30)), Sectors: uint16(1 + r.Intn(4)), Turn: uint64(i)}
			if d.Insert(k, e.At, e.Sectors, e.Turn) == api.OK {
				l = append(l, one{k, e})
			}
		}
		var want []api.Entry
		for _, o := range slices.Backward(l) {
			if d.Bucket(o.k) == d.Bucket(k) && o.e.Tag == Tag(k) {
				want = append(want, o.e)
			}
		}
		if !slices.Equal(d.Probe(k), want) || d.Len() != len(l) {
			t.Fatal("probe")
		}
		if i%100 == 0 {
			if d, _ = Open(d.Bytes()); d == nil {
				t.Fatal("not opened")
			}
		}
	}
}
