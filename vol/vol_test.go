package vol

import (
	"bytes"
	"math"
	"math/rand"
	"testing"

	"ambry/api"
	"ambry/disk"
)

func open(t *testing.T, d *disk.Disk) *Vol {
	t.Helper()
	v, e := Open(d)
	if e != api.OK || v == nil {
		t.Fatal(e)
	}
	return v
}

func must(t *testing.T, e api.Errno) {
	t.Helper()
	if e != api.OK {
		t.Fatal(e)
	}
}

func holds(t *testing.T, v *Vol, k api.Key, part int, want string) {
	t.Helper()
	b, _, e := v.Get(k, part)
	if e != api.OK || string(b) != want {
		t.Errorf("part %d: %q %v", part, b, e)
	}
}

func none(t *testing.T, v *Vol, k api.Key, part int) {
	t.Helper()
	if b, last, e := v.Get(k, part); e != api.ErrVolNone || b != nil || last {
		t.Errorf("part %d: %q %v", part, b, e)
	}
}

func TestOpenRefuses(t *testing.T) { // P6.1
	for _, c := range []struct {
		n, size int
		want    api.Errno
	}{{63, 128, api.ErrVolForm}, {64, 127, api.ErrVolForm}, {64, 128, api.OK}, {8192, 4096, api.OK}} {
		v, e := Open(disk.New(c.n, c.size))
		if e != c.want || (v == nil) != (e != api.OK) {
			t.Errorf("%d, %d: %v", c.n, c.size, e)
		}
	}
	d := disk.New(10, 64)
	d.Cut(0)
	d.Flush()
	if v, e := Open(d); e != api.ErrDiskDead || v != nil { // named ahead of ErrVolForm
		t.Error(e)
	}
	if _, e := Open(nil); e != api.ErrVolForm {
		t.Error("no disk", e)
	}
}

func TestRoom(t *testing.T) { // P6.1
	for _, c := range [][2]int{{64, 128}, {65, 129}, {100, 4096}, {1001, 511}, {8192, 4096}} {
		v := open(t, disk.New(c[0], c[1]))
		if 2*v.Room() < c[0]*c[1]-64*c[1] || v.Room() < 0 {
			t.Errorf("%v: %d", c, v.Room())
		}
	}
}

func TestOtherBytesAreEmpty(t *testing.T) { // P6.1
	r := rand.New(rand.NewSource(6))
	for _, fill := range []func(b []byte){
		func(b []byte) { r.Read(b) },
		func(b []byte) { copy(b, bytes.Repeat([]byte{255}, len(b))) },
		func(b []byte) { copy(b, "\x00\x00\x00\x05") },
	} {
		d := disk.New(70, 200)
		for i := range d.Sectors() {
			b := make([]byte, d.Size())
			fill(b)
			must(t, d.Write(i, b))
		}
		v := open(t, d)
		none(t, v, api.Key{}, 0)
		must(t, v.Put(api.Key{}, 0, true, []byte("a")))
		must(t, v.Sync())
		holds(t, open(t, d), api.Key{}, 0, "a")
	}
}

func TestPutGet(t *testing.T) { // P6.2, and the example
	v := open(t, disk.New(256, 256))
	k, other := api.Key{1}, api.Key{2}
	b := []byte("abc")
	must(t, v.Put(k, 0, false, b))
	b[0] = 'x'
	must(t, v.Put(k, 65535, true, nil))
	holds(t, v, k, 0, "abc")
	holds(t, v, k, 65535, "")
	if _, last, _ := v.Get(k, 65535); !last {
		t.Error("last")
	}
	if _, last, _ := v.Get(k, 0); last {
		t.Error("not last")
	}
	none(t, v, other, 0)
	none(t, v, k, 1)
	none(t, v, k, -1)
	none(t, v, k, 65536)
	must(t, v.Put(k, 0, true, []byte("later")))
	holds(t, v, k, 0, "later")
	got, _, _ := v.Get(k, 0)
	got[0] = 'x'
	holds(t, v, k, 0, "later")
}

func TestPutRefuses(t *testing.T) { // P6.2
	v := open(t, disk.New(256, 256))
	must(t, v.Put(api.Key{}, 0, true, []byte("a")))
	for _, c := range []struct{ part, size int }{{0, api.MaxFrag + 1}, {-1, 0}, {65536, 0}, {math.MaxInt, 0}} {
		if e := v.Put(api.Key{}, c.part, false, make([]byte, c.size)); e != api.ErrVolSize {
			t.Errorf("%v: %v", c, e)
		}
	}
	holds(t, v, api.Key{}, 0, "a")
	must(t, v.Put(api.Key{}, 0, true, make([]byte, api.MaxFrag)))
}

func TestDrop(t *testing.T) { // P6.2, P6.3
	d := disk.New(256, 256)
	v := open(t, d)
	must(t, v.Put(api.Key{}, 0, true, []byte("a")))
	must(t, v.Put(api.Key{}, 1, true, []byte("b")))
	must(t, v.Sync())
	must(t, v.Drop(api.Key{}, 0))
	none(t, v, api.Key{}, 0)
	must(t, v.Drop(api.Key{}, 0))
	must(t, v.Drop(api.Key{}, -7))
	must(t, v.Sync())
	d.Crash(0, 0)
	v = open(t, d)
	none(t, v, api.Key{}, 0)
	holds(t, v, api.Key{}, 1, "b")
}

func TestDown(t *testing.T) { // P6.2, P6.3
	d := disk.New(256, 256)
	v := open(t, d)
	must(t, v.Put(api.Key{}, 0, true, []byte("a")))
	d.Cut(0)
	if v.Down() || v.Sync() != api.ErrDiskDead || !v.Down() {
		t.Error("sync")
	}
	d.Cut(1000) // the power is there again, but the volume is down
	_, _, e := v.Get(api.Key{}, 0)
	if e != api.ErrDiskDead || v.Put(api.Key{}, 0, true, nil) != api.ErrDiskDead || v.Put(api.Key{}, -1, true, nil) != api.ErrDiskDead ||
		v.Drop(api.Key{}, 0) != api.ErrDiskDead || v.Sync() != api.ErrDiskDead || !v.Down() {
		t.Error("later calls")
	}
	d = disk.New(256, 256)
	v = open(t, d)
	d.Cut(3)
	e = api.OK
	for i := 0; e == api.OK && i < 1000; i++ {
		e = v.Put(api.Key{}, i, true, make([]byte, 300))
	}
	if e != api.ErrDiskDead || !v.Down() {
		t.Error("put", e)
	}
	d = disk.New(256, 256)
	v = open(t, d)
	must(t, v.Put(api.Key{}, 0, true, make([]byte, 1000)))
	d.Cut(0)
	d.Flush()
	if _, _, e := v.Get(api.Key{}, 0); e != api.ErrDiskDead || !v.Down() {
		t.Error("get", e)
	}
}

func TestSyncTellsOfPower(t *testing.T) { // P6.3: though there be nothing to write
	d := disk.New(256, 256)
	v := open(t, d)
	d.Cut(0)
	if v.Sync() != api.ErrDiskDead || !v.Down() {
		t.Error("sync")
	}
}

func TestNothingForgottenBelowRoom(t *testing.T) { // P6.2
	for _, c := range []struct{ n, size, payload int }{{100, 4096, 0}, {200, 128, 50}, {300, 128, 4096}, {500, 700, 37}, {8192, 4096, 8192 / 2}} {
		d := disk.New(c.n, c.size)
		v := open(t, d)
		room, n := v.Room(), 0
		for (n+1)*(c.payload+256) <= room && n < 2001 {
			n++
		}
		if n == 0 {
			t.Fatal("no room")
		}
		r := rand.New(rand.NewSource(int64(c.n)))
		for i := range n * 3 {
			must(t, v.Put(api.Key{7}, i, true, bytes.Repeat([]byte{byte(i)}, c.payload)))
			if r.Intn(n) < 40 {
				must(t, v.Sync())
			}
			if i%(n/8+1) != 0 && i < n*3-1 {
				continue
			}
			for j := max(0, i-n+1); j <= i; j++ {
				if b, _, e := v.Get(api.Key{7}, j); e != api.OK || len(b) != c.payload || c.payload > 0 && b[0] != byte(j) {
					t.Fatalf("%v: %d of %d: %v", c, j, i, e)
				}
			}
		}
	}
}

func TestSmallFragmentsThatAreSynced(t *testing.T) { // P6.2, P6.3: a Sync for each takes no more room
	d := disk.New(100, 4096)
	v := open(t, d)
	n := v.Room() / 256
	for i := range n * 2 {
		must(t, v.Put(api.Key{}, i, true, nil))
		must(t, v.Sync())
	}
	d.Crash(0, math.MaxUint64)
	v = open(t, d)
	for i := n; i < 2*n; i++ {
		holds(t, v, api.Key{}, i, "")
	}
}

func TestWhatIsComeOverIsForgotten(t *testing.T) { // P6.2, P6.5: it forgets, it never mixes
	v := open(t, disk.New(64, 128))
	for i := range 300 {
		must(t, v.Put(api.Key{}, i, true, bytes.Repeat([]byte{byte(i)}, i*13%4097)))
		for j := range i + 1 {
			if b, _, e := v.Get(api.Key{}, j); e == api.OK && !bytes.Equal(b, bytes.Repeat([]byte{byte(j)}, j*13%4097)) {
				t.Fatal("mixed")
			}
		}
	}
	none(t, v, api.Key{}, 0)
}

func TestSnapshotsTakeTurns(t *testing.T) { // P6.4: a torn snapshot leaves the one ahead of it
	for steps := range 40 {
		for _, torn := range []uint64{0, 1, 2, math.MaxUint64} {
			d := disk.New(100, 128)
			v := open(t, d)
			must(t, v.Put(api.Key{}, 0, true, []byte("old")))
			must(t, v.Sync())
			must(t, v.Put(api.Key{}, 0, true, []byte("new")))
			must(t, v.Put(api.Key{}, 1, true, make([]byte, 700)))
			d.Cut(steps)
			synced := v.Sync() == api.OK
			d.Crash(math.MaxUint64, torn)
			b, _, e := open(t, d).Get(api.Key{}, 0)
			if e != api.OK || string(b) != "old" && string(b) != "new" || synced && string(b) != "new" {
				t.Fatalf("%d steps, torn %x: %q %v", steps, torn, b, e)
			}
		}
	}
}

func TestSnapshotOfAnotherDiskIsNone(t *testing.T) {
	d := disk.New(100, 128)
	v := open(t, d)
	must(t, v.Put(api.Key{}, 0, true, []byte("a")))
	must(t, v.Sync())
	other := disk.New(101, 128)
	for i := range d.Sectors() {
		b, _ := d.Read(i)
		must(t, other.Write(i, b))
	}
	none(t, open(t, other), api.Key{}, 0)
}

func TestBrokenSectors(t *testing.T) { // P6.2, P6.5: never another payload, whichever sector says another thing
	d := disk.New(100, 128)
	v := open(t, d)
	for i := range 3 {
		must(t, v.Put(api.Key{}, i, true, bytes.Repeat([]byte{byte(i)}, 500)))
	}
	must(t, v.Sync())
	for place := range d.Sectors() {
		was, _ := d.Read(place)
		b := bytes.Clone(was)
		b[place%len(b)] ^= 4
		must(t, d.Write(place, b))
		for _, v := range []*Vol{v, open(t, d)} {
			for i := range 3 {
				if b, _, e := v.Get(api.Key{}, i); e != api.ErrVolNone && (e != api.OK || !bytes.Equal(b, bytes.Repeat([]byte{byte(i)}, 500))) {
					t.Errorf("sector %d: %q %v", place, b, e)
				}
			}
		}
		must(t, d.Write(place, was))
	}
}
