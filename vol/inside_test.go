package vol

// Tests of how a volume is laid out, which none of its calls tells.

import (
	"bytes"
	"math"
	"math/rand"
	"strconv"
	"testing"

	"ambry/api"
	"ambry/disk"
)

func TestEveryPlanHasRoom(t *testing.T) { // P6.1: what a plan promises it can hold
	for n := leastSectors; n <= api.MaxSectors; n = n*9/8 + 1 {
		for size := leastSize; size <= api.MaxSector; size = size*9/8 + 1 {
			p, _ := planOf(disk.New(n, size))
			if p.bytes() < uint64(p.room) || p.bytes() < 89+api.MaxFrag || p.bytes() > math.MaxUint32 {
				t.Fatalf("%+v", p)
			}
		}
	}
}

func TestLineStaysShort(t *testing.T) { // what isn't there any more isn't held
	v := open(t, disk.New(8192, 512))
	must(t, v.Put(api.Key{1}, 0, true, []byte("first")))
	for range 5000 {
		must(t, v.Put(api.Key{}, 0, true, nil))
	}
	if len(v.line) > 100 {
		t.Error(len(v.line))
	}
	holds(t, v, api.Key{1}, 0, "first")
}

func TestFullBucketsSpill(t *testing.T) { // P6.3: also where all fragments fall into one bucket
	d := disk.New(400, 128)
	v := open(t, d)
	n := v.plan.most
	for i := range n {
		must(t, v.Put(api.Key{}, i, true, []byte(strconv.Itoa(i))))
	}
	for i := range v.line {
		tag := v.line[i].key
		v.line[i].key = api.Key{4: tag[4], 5: tag[5]}
	}
	if l := v.dirs(); len(l) < n/slots {
		t.Fatal("no spill", len(l))
	}
	must(t, v.Sync())
	d.Crash(0, 0)
	v = open(t, d)
	for i := range n {
		holds(t, v, api.Key{}, i, strconv.Itoa(i))
	}
	if b := v.snapshot(); len(b)+frameSize > v.plan.snap*v.plan.size {
		t.Error("too long")
	}
}

func TestAnySnapshotOpens(t *testing.T) { // P6.1: other bytes, though their sum be right
	r := rand.New(rand.NewSource(66))
	d := disk.New(100, 128)
	v := open(t, d)
	for i := range 5 {
		must(t, v.Put(api.Key{}, i, true, make([]byte, 100*i)))
	}
	must(t, v.Sync())
	good := v.snapshot()
	for range 3000 {
		body := bytes.Clone(good)
		for range 1 + r.Intn(3) {
			body[r.Intn(len(body))] = byte(r.Intn(256))
		}
		c := d.Copy()
		if !v.plan.writeSnap(c, 2, body[:len(body)-r.Intn(2)]) {
			t.Fatal("not written")
		}
		w := open(t, c)
		for i := range 6 {
			if b, _, e := w.Get(api.Key{}, i); e == api.OK && len(b) != 100*i {
				t.Fatal("another payload")
			}
		}
		for range 3 {
			if e := w.Put(api.Key{1}, 0, true, make([]byte, r.Intn(4000))); e != api.OK || w.Sync() != api.OK {
				t.Fatal("put", e)
			}
		}
	}
}

func TestFullRing(t *testing.T) { // P6.5: what the cursor has just come round to is there yet
	d := disk.New(64, 128)
	v := open(t, d)
	n := v.plan.most
	size := int(v.plan.bytes())/n - 89
	if (size+89)*n != int(v.plan.bytes()) {
		t.Fatal("not full", n, size)
	}
	for i := range n {
		must(t, v.Put(api.Key{}, i, true, bytes.Repeat([]byte{byte(i)}, size)))
	}
	must(t, v.Sync())
	for _, v := range []*Vol{v, open(t, d)} {
		for i := range n {
			holds(t, v, api.Key{}, i, string(bytes.Repeat([]byte{byte(i)}, size)))
		}
	}
}

func TestWorstSnapshotHasRoom(t *testing.T) { // P6.3: all fragments in one bucket, the tail full
	for _, c := range [][2]int{{64, 128}, {100, 129}, {700, 333}, {1000, 4096}, {8192, 4096}} {
		v := open(t, disk.New(c[0], c[1]))
		v.snap, v.cursor, v.turn = math.MaxUint64, math.MaxUint64, math.MaxUint64
		v.tail = make([]byte, v.plan.size-1)
		for i := range v.plan.most {
			s := step{name: name{part: i}, spot: spot{at: uint64(i), size: 89, turn: 1<<63 - 1}}
			v.index[s.name] = s.spot
			v.line = append(v.line, s)
		}
		if n := len(v.snapshot()) + frameSize; n > v.plan.snapBytes() || v.plan.snapBytes() > v.plan.snap*v.plan.size {
			t.Error(c, n, v.plan.snapBytes())
		}
	}
}

func TestAnotherTurnIsAnotherFragment(t *testing.T) { // P6.2
	v := open(t, disk.New(100, 128))
	must(t, v.Put(api.Key{}, 0, true, []byte("a")))
	s := v.index[name{}]
	if _, _, e := v.read(s); e != api.OK {
		t.Error(e)
	}
	s.turn++
	if _, b, e := v.read(s); e != api.ErrForm || b != nil {
		t.Error(e)
	}
}

func TestBrokenFragmentIsNone(t *testing.T) { // P6.2
	d := disk.New(100, 128)
	v := open(t, d)
	must(t, v.Put(api.Key{}, 0, true, make([]byte, 500)))
	must(t, v.Put(api.Key{}, 1, true, make([]byte, 500)))
	must(t, v.Sync())
	b, _ := d.Read(v.plan.place(200))
	b[0] ^= 1
	must(t, d.Write(v.plan.place(200), b))
	none(t, v, api.Key{}, 0)
	v = open(t, d)
	none(t, v, api.Key{}, 0)
	holds(t, v, api.Key{}, 1, string(make([]byte, 500)))
}

func TestSyncOfNothingWritesNothing(t *testing.T) { // P6.3
	d := disk.New(100, 128)
	v := open(t, d)
	must(t, v.Put(api.Key{}, 0, true, []byte("a")))
	must(t, v.Sync())
	d.Cut(1) // one flush
	must(t, v.Sync())
	must(t, v.Drop(api.Key{}, 1))
	d.Cut(1)
	must(t, v.Sync())
	must(t, v.Drop(api.Key{}, 0))
	d.Cut(1)
	if v.Sync() != api.ErrDiskDead {
		t.Error("what was dropped isn't told")
	}
}
