package disk

import (
	"bytes"
	"math"
	"math/rand"
	"slices"
	"testing"

	"ambry/api"
)

func full(d *Disk, c byte) []byte { return bytes.Repeat([]byte{c}, d.Size()) }

func must(t *testing.T, e api.Errno) {
	t.Helper()
	if e != api.OK {
		t.Fatal(e)
	}
}

func holds(t *testing.T, d *Disk, i int, c byte) {
	t.Helper()
	b, e := d.Read(i)
	if e != api.OK || !bytes.Equal(b, full(d, c)) {
		t.Errorf("sector %d: %v %x", i, e, b[:min(len(b), 4)])
	}
}

func TestNewCountsAs(t *testing.T) { // P3.1
	for _, c := range []struct{ n, size, wantN, wantSize int }{
		{0, 0, 1, 64}, {-5, -5, 1, 64}, {1, 63, 1, 64}, {2, 65, 2, 65},
		{8192, 4096, 8192, 4096}, {8193, 4097, 8192, 4096}, {math.MaxInt, math.MaxInt, 8192, 4096},
	} {
		d := New(c.n, c.size)
		if d.Sectors() != c.wantN || d.Size() != c.wantSize {
			t.Errorf("%d, %d: %d, %d", c.n, c.size, d.Sectors(), d.Size())
		}
		holds(t, d, 0, 0)
		holds(t, d, c.wantN-1, 0)
	}
}

func TestReadWrite(t *testing.T) { // P3.1
	d := New(4, 100)
	b := full(d, 7)
	must(t, d.Write(3, b))
	b[0] = 8 // what was handed in isn't kept
	holds(t, d, 3, 7)
	holds(t, d, 2, 0)
	got, _ := d.Read(3)
	got[0] = 9
	holds(t, d, 3, 7)
	for _, i := range []int{-1, 4, math.MinInt, math.MaxInt} {
		if b, e := d.Read(i); e != api.ErrDiskPlace || b != nil {
			t.Errorf("read %d: %v", i, e)
		}
		if e := d.Write(i, nil); e != api.ErrDiskPlace { // named ahead of the size
			t.Errorf("write %d: %v", i, e)
		}
	}
	for _, n := range []int{0, 99, 101} {
		if e := d.Write(0, make([]byte, n)); e != api.ErrDiskSize {
			t.Errorf("%d bytes: %v", n, e)
		}
	}
	must(t, d.Flush())
	holds(t, d, 3, 7)
}

func TestCut(t *testing.T) { // P3.2
	d := New(4, 64)
	d.Cut(2)
	must(t, d.Write(0, full(d, 1)))
	if d.Write(9, full(d, 1)) != api.ErrDiskPlace || d.Write(0, nil) != api.ErrDiskSize { // refused: not counted
		t.Error("refused")
	}
	must(t, d.Flush())
	if d.Dead() {
		t.Error("dead ahead of its time")
	}
	holds(t, d, 0, 1)
	if e := d.Write(0, full(d, 2)); e != api.ErrDiskDead || !d.Dead() {
		t.Errorf("write without power: %v", e)
	}
	if _, e := d.Read(77); e != api.ErrDiskDead {
		t.Errorf("read without power: %v", e)
	}
	if d.Write(-1, nil) != api.ErrDiskDead || d.Flush() != api.ErrDiskDead {
		t.Error("without power")
	}
	d.Cut(1) // takes it back
	if d.Dead() {
		t.Error("still dead")
	}
	holds(t, d, 0, 1)
	must(t, d.Write(0, full(d, 3)))
	if d.Flush() != api.ErrDiskDead || !d.Dead() {
		t.Error("flush without power")
	}
	d.Crash(0, 0)
	if d.Dead() {
		t.Error("dead behind the crash")
	}
	holds(t, d, 0, 1) // the flush that found no power did nothing
	for range 10 {
		must(t, d.Write(0, full(d, 4)))
	}
	d.Cut(-3)
	if d.Flush() != api.ErrDiskDead {
		t.Error("below 0 counts as 0")
	}
	d.Cut(math.MaxInt)
	must(t, d.Flush())
}

func TestCrashTakesACutBack(t *testing.T) { // P3.2
	d := New(4, 64)
	d.Cut(0)
	d.Crash(0, 0)
	must(t, d.Flush())
}

func TestCrash(t *testing.T) { // P3.2
	d := New(8, 64)
	for i := range 8 {
		must(t, d.Write(i, full(d, 10)))
	}
	must(t, d.Flush())
	for _, i := range []int{6, 1, 4, 3} { // numbered by their places: 1, 3, 4, 6
		must(t, d.Write(i, full(d, byte(i))))
	}
	must(t, d.Write(3, full(d, 33)))
	d.Crash(0b0011, 0b0101)
	for i, c := range []byte{10, ^byte(1), 10, 33, ^byte(4), 10, 10, 10} {
		holds(t, d, i, c)
	}
	d.Crash(0, math.MaxUint64) // all is sure: nothing is torn any more
	holds(t, d, 1, ^byte(1))
	holds(t, d, 3, 33)
}

func TestCrashOfMoreThan64(t *testing.T) { // P3.2: above 63 k less 64, and so on
	d := New(200, 64)
	for i := range 200 {
		must(t, d.Write(i, full(d, 5)))
	}
	d.Crash(1<<3, 1<<7)
	for i := range 200 {
		want := byte(0)
		if i%64 == 3 {
			want = 5
		}
		if i%64 == 7 {
			want = ^byte(5)
		}
		holds(t, d, i, want)
	}
}

func TestNotSureIsLost(t *testing.T) { // the chapter's example, and P3.3
	d := New(2, 64)
	must(t, d.Write(0, full(d, 1)))
	d.Crash(0, 0)
	holds(t, d, 0, 0)
	must(t, d.Write(0, full(d, 1)))
	must(t, d.Flush())
	d.Crash(0, math.MaxUint64)
	holds(t, d, 0, 1)
}

func TestCopyIsAnotherStore(t *testing.T) { // P3.2
	d := New(4, 64)
	must(t, d.Write(0, full(d, 1)))
	must(t, d.Flush())
	must(t, d.Write(1, full(d, 2)))
	d.Cut(1)
	c := d.Copy()
	must(t, c.Write(2, full(c, 3)))
	if c.Flush() != api.ErrDiskDead || !c.Dead() || d.Dead() {
		t.Error("the cut is copied")
	}
	if dead := c.Copy(); !dead.Dead() {
		t.Error("dead is copied")
	}
	holds(t, d, 2, 0)
	must(t, d.Flush())
	c.Crash(0, 0)
	holds(t, c, 0, 1)
	holds(t, c, 1, 0)
	holds(t, d, 1, 2)
}

// model: a disk told plainly.
type model struct {
	last, sure []byte
	loose      []bool
	left       int // steps until the cut; below 0: none
	dead       bool
}

func TestAgainstModel(t *testing.T) { // P3.1 to P3.3
	r := rand.New(rand.NewSource(3))
	d := New(70, 64)
	m := &model{last: make([]byte, 70), sure: make([]byte, 70), loose: make([]bool, 70), left: -1}
	for range 20000 {
		switch r.Intn(12) {
		case 0:
			m.step(t, d.Flush(), func() { copy(m.sure, m.last); clear(m.loose) })
		case 1:
			if r.Intn(4) == 0 {
				m.left, m.dead = r.Intn(20), false
				d.Cut(m.left)
			}
		case 2:
			keep, torn := r.Uint64(), r.Uint64()&r.Uint64()
			d.Crash(keep, torn)
			m.crash(keep, torn)
		case 3:
			d = d.Copy()
		default:
			i, c := r.Intn(70), byte(r.Intn(256))
			m.step(t, d.Write(i, full(d, c)), func() { m.last[i], m.loose[i] = c, true })
		}
		i := r.Intn(70)
		if b, e := d.Read(i); (e == api.ErrDiskDead) != m.dead || !m.dead && b[0] != m.last[i] {
			t.Fatal("not as told")
		}
	}
}

func (m *model) step(t *testing.T, e api.Errno, do func()) {
	m.dead = m.dead || m.left == 0
	if (e == api.ErrDiskDead) != m.dead {
		t.Fatal("power")
	}
	if !m.dead {
		m.left = max(m.left-1, min(m.left, -1))
		do()
	}
}

func (m *model) crash(keep, torn uint64) {
	k := 0
	for i := range m.last {
		if !m.loose[i] {
			continue
		}
		if torn>>(k%64)&1 == 1 {
			m.last[i] = ^m.last[i]
		} else if keep>>(k%64)&1 == 0 {
			m.last[i] = m.sure[i]
		}
		k++
	}
	m.sure = slices.Clone(m.last)
	clear(m.loose)
	m.left, m.dead = -1, false
}
