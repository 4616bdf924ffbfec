package vol

import (
	"bytes"
	"math/rand"
	"testing"

	"ambry/api"
	"ambry/disk"
)

// whose: a key and a part.
type whose struct {
	key  api.Key
	part int
}

// put: one Put, as it was made.
type put struct {
	n       whose
	payload []byte
	last    bool
}

// life: a volume, and what it was told.
type life struct {
	t     *testing.T
	r     *rand.Rand
	d     *disk.Disk
	v     *Vol
	puts  []put
	now   map[whose]int // the number of the put that stands, from 1 on; 0: none
	sure  map[whose]int // what stood at the last Sync
	later map[whose]bool

	total int   // of all puts
	sums  []int // total ahead of each put
}

func (l *life) names() []whose {
	var all []whose
	for k := range 6 {
		for part := range 12 {
			all = append(all, whose{api.Key{31: byte(k)}, part * part * 500})
		}
	}
	return all
}

// mayBeGone: whether the put of that number may be forgotten.
func (l *life) mayBeGone(i int) bool { return l.total-l.sums[i-1] > l.v.Room() }

func (l *life) put(n whose, payload []byte) {
	p := put{n, payload, l.r.Intn(2) == 0}
	l.sums = append(l.sums, l.total)
	l.total += len(payload) + 256
	l.puts = append(l.puts, p)
	l.later[n] = true
	if e := l.v.Put(n.key, n.part, p.last, payload); e == api.OK {
		l.now[n] = len(l.puts)
	} else if e != api.ErrDiskDead || !l.v.Down() {
		l.t.Fatal(e)
	}
}

// look holds what Get says of a part against what it may say.
func (l *life) look(n whose) {
	b, last, e := l.v.Get(n.key, n.part)
	i := l.now[n]
	switch {
	case l.v.Down():
		if e != api.ErrDiskDead {
			l.t.Fatal("down", e)
		}
	case e == api.ErrVolNone:
		if i > 0 && !l.mayBeGone(i) {
			l.t.Fatalf("put %d is forgotten", i)
		}
	case e != api.OK || i == 0 || !bytes.Equal(b, l.puts[i-1].payload) || last != l.puts[i-1].last:
		l.t.Fatalf("another payload: %v, put %d", e, i)
	}
}

func (l *life) sync() {
	if l.v.Sync() == api.OK {
		l.sure = map[whose]int{}
		for n, i := range l.now {
			l.sure[n] = i
		}
		l.later = map[whose]bool{}
	} else if !l.v.Down() {
		l.t.Fatal("sync")
	}
}

// crash: behind it, each part has what was sure, or what was put later.
func (l *life) crash() {
	l.d.Crash(l.r.Uint64(), l.r.Uint64()&l.r.Uint64())
	v, e := Open(l.d)
	if e != api.OK {
		l.t.Fatal(e)
	}
	l.v = v
	for _, n := range l.names() {
		b, last, e := v.Get(n.key, n.part)
		s := l.sure[n]
		if e == api.ErrVolNone {
			if s > 0 && !l.later[n] && !l.mayBeGone(s) {
				l.t.Fatalf("put %d was sure", s)
			}
			l.now[n] = 0
			continue
		}
		found := 0
		for i := max(s, 1); i <= len(l.puts); i++ {
			p := l.puts[i-1]
			if p.n == n && bytes.Equal(p.payload, b) && p.last == last {
				found = i
			}
		}
		if e != api.OK || found == 0 || s == 0 && !l.later[n] {
			l.t.Fatalf("not sure, nor later: %v", e)
		}
		l.now[n] = found
	}
}

func (l *life) step() {
	all := l.names()
	n := all[l.r.Intn(len(all))]
	switch x := l.r.Intn(100); {
	case x < 50:
		size := l.r.Intn(300)
		if l.r.Intn(4) == 0 {
			size = l.r.Intn(api.MaxFrag + 1)
		}
		payload := make([]byte, size)
		l.r.Read(payload)
		l.put(n, payload)
	case x < 60:
		if l.v.Drop(n.key, n.part) == api.OK {
			l.now[n] = 0
		}
		l.later[n] = true
	case x < 70:
		l.sync()
	case x < 74:
		l.crash()
	case x < 78:
		l.d.Cut(l.r.Intn(60))
	default:
		l.look(n)
	}
}

func TestLives(t *testing.T) { // P6.2 to P6.5
	for seed := range int64(60) {
		r := rand.New(rand.NewSource(seed))
		sizes := [][2]int{{64, 128}, {64, 4096}, {80, 300}, {150, 512}, {700, 128}, {2000, 256}}
		c := sizes[seed%int64(len(sizes))]
		d := disk.New(c[0], c[1])
		v, _ := Open(d)
		l := &life{t: t, r: r, d: d, v: v, now: map[whose]int{}, sure: map[whose]int{}, later: map[whose]bool{}}
		for range 1500 {
			l.step()
		}
		for _, n := range l.names() {
			l.look(n)
		}
	}
}
