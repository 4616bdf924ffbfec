package ram

import (
	"bytes"
	"math"
	"math/rand"
	"slices"
	"testing"

	"ambry/api"
)

func key(c int) api.Key { return api.Key{byte(c), byte(c >> 8)} }

func keysAre(t *testing.T, what string, got []api.Key, want ...int) {
	t.Helper()
	var l []api.Key
	for _, c := range want {
		l = append(l, key(c))
	}
	if !slices.Equal(got, l) {
		t.Errorf("%s: %v", what, got)
	}
}

// sized answers bytes of an entry of that size.
func sized(size int) []byte { return make([]byte, size-64) }

func TestPutGet(t *testing.T) { // P8.1, P8.2, and the example
	r := New(1000)
	b := []byte("abc")
	if !r.Put(key(1), b) || r.Used() != 67 || r.Hits(key(1)) != 1 {
		t.Error("put")
	}
	b[0] = 'x'
	got, ok := r.Get(key(1))
	if !ok || string(got) != "abc" || r.Hits(key(1)) != 2 {
		t.Errorf("%q %v", got, ok)
	}
	got[0] = 'x'
	if got, _ := r.Get(key(1)); string(got) != "abc" {
		t.Error("shared")
	}
	if got, ok := r.Get(key(2)); ok || got != nil || r.Hits(key(2)) != 0 {
		t.Error("what isn't there")
	}
	if !r.Put(key(1), nil) || r.Used() != 64 || r.Hits(key(1)) != 4 { // its hits are kept
		t.Error("again", r.Hits(key(1)))
	}
}

func TestGetGoesToTheEnd(t *testing.T) { // P8.2
	r := New(1000)
	for c := range 3 {
		r.Put(key(c), nil)
	}
	r.Get(key(0))
	keysAre(t, "keys", r.Keys(), 1, 2, 0)
	r.Put(key(1), nil)
	keysAre(t, "keys", r.Keys(), 2, 0, 1)
}

func TestHitsEnd(t *testing.T) { // P8.1: up to 1000
	r := New(1000)
	r.Put(key(1), nil)
	for range 2000 {
		r.Get(key(1))
	}
	if r.Hits(key(1)) != 1000 {
		t.Error(r.Hits(key(1)))
	}
	r.Put(key(1), nil)
	if r.Hits(key(1)) != 1000 {
		t.Error(r.Hits(key(1)))
	}
}

func TestLimits(t *testing.T) { // P8.1, P8.3
	for _, limit := range []int{0, -5, math.MinInt, 63} {
		r := New(limit)
		if r.Put(key(1), nil) || r.Used() != 0 {
			t.Error("limit", limit)
		}
		keysAre(t, "history", r.History(), 1)
	}
	r := New(64)
	if !r.Put(key(1), nil) || r.Put(key(2), []byte("a")) {
		t.Error("limit 64")
	}
}

func TestTooBigOneGoesToHistory(t *testing.T) { // P8.3: the cached one of its key too
	r := New(100)
	r.Put(key(1), nil)
	r.Get(key(1))
	if r.Put(key(1), make([]byte, 37)) || r.Used() != 0 || r.Hits(key(1)) != 3 {
		t.Error("kept")
	}
	keysAre(t, "keys", r.Keys())
	keysAre(t, "history", r.History(), 1)
	if _, ok := r.Get(key(1)); ok || r.Hits(key(1)) != 4 { // P8.2: a hit in the history
		t.Error("told")
	}
	if !r.Put(key(1), nil) || r.Hits(key(1)) != 5 || r.History() != nil {
		t.Error("not back")
	}
}

func TestEldestThatIsWorthLessGoes(t *testing.T) { // P8.3
	r := New(200)
	r.Put(key(1), sized(100))
	r.Put(key(2), sized(100))
	if !r.Put(key(3), sized(100)) { // alike in value: not greater
		t.Error("not kept")
	}
	keysAre(t, "keys", r.Keys(), 2, 3)
	keysAre(t, "history", r.History(), 1)
}

func TestEldestThatIsWorthMoreStays(t *testing.T) { // P8.3
	r := New(200)
	r.Put(key(1), sized(100))
	for range 4 {
		r.Get(key(1))
	}
	r.Put(key(2), sized(100))
	if !r.Put(key(3), sized(100)) {
		t.Error("not kept")
	}
	keysAre(t, "keys", r.Keys(), 1, 3)
	keysAre(t, "history", r.History(), 2)
	if r.Hits(key(1)) != 2 {
		t.Error("not halved", r.Hits(key(1)))
	}
}

func TestAllAreWorthMore(t *testing.T) { // P8.3
	r := New(200)
	for c := range 2 {
		r.Put(key(c), sized(100))
		r.Get(key(c))
		r.Get(key(c))
	}
	if r.Put(key(2), sized(100)) {
		t.Error("kept")
	}
	keysAre(t, "keys", r.Keys(), 0, 1)
	keysAre(t, "history", r.History(), 2)
	if r.Hits(key(0)) != 1 || r.Hits(key(1)) != 1 {
		t.Error("not halved")
	}
	r.Get(key(2))
	if !r.Put(key(2), sized(100)) || r.Hits(key(2)) != 3 {
		t.Error("its hits in the history count")
	}
	keysAre(t, "keys", r.Keys(), 1, 2)
}

func TestOneIsLookedAtOnce(t *testing.T) { // P8.3: the small heavy one is spared, the great one goes, and then it is looked at again
	r := New(400)
	r.Put(key(3), sized(500))
	r.Put(key(2), sized(64))
	for range 10 {
		r.Get(key(2))
	}
	r.Put(key(1), sized(310))
	if r.Put(key(3), sized(390)) {
		t.Error("kept")
	}
	keysAre(t, "keys", r.Keys(), 2)
	keysAre(t, "history", r.History(), 1, 3) // what went stays away
}

func TestHistoryHasAnEnd(t *testing.T) { // P8.4
	r := New(128)
	for c := range 50 {
		r.Put(key(c), nil)
	}
	h := r.History()
	if len(h) != 18 || h[0] != key(30) || h[17] != key(47) || r.Hits(key(29)) != 0 {
		t.Error(len(h))
	}
	if !r.Drop(key(48)) || len(r.History()) != 17 || r.Used() != 64 {
		t.Error("drop")
	}
	if r.Drop(key(48)) || r.Drop(key(40)) || r.Hits(key(40)) != 0 || len(r.History()) != 16 {
		t.Error("drop of what isn't cached")
	}
}

// model: a cache told plainly.
type model struct {
	limit           int
	cached, history []item
}

type item struct {
	k          api.Key
	b          []byte
	hits, size int
	looked     bool
}

func take(l *[]item, k api.Key) (item, bool) {
	for i, x := range *l {
		if x.k == k {
			*l = slices.Delete(slices.Clone(*l), i, i+1)
			return x, true
		}
	}
	return item{k: k}, false
}

func (m *model) used() (n int) {
	for _, x := range m.cached {
		n += x.size
	}
	return n
}

func (m *model) put(k api.Key, b []byte) bool {
	x, ok := take(&m.cached, k)
	if !ok {
		x, _ = take(&m.history, k)
	}
	x.hits = min(x.hits+1, 1000)
	x.b, x.size = b, len(b)+64
	for i := range m.cached {
		m.cached[i].looked = false
	}
	for x.size <= m.limit && m.used()+x.size > m.limit {
		e := m.cached[0]
		if e.looked {
			m.history = append(m.history, x)
			return false
		}
		m.cached = m.cached[1:]
		if e.looked = true; e.hits*x.size > x.hits*e.size {
			e.hits = max(e.hits/2, 1)
			m.cached = append(m.cached, e)
		} else {
			m.history = append(m.history, e)
		}
	}
	if x.size > m.limit {
		m.history = append(m.history, x)
		return false
	}
	m.cached = append(m.cached, x)
	return true
}

func (m *model) get(k api.Key) ([]byte, bool) {
	for i := range m.history {
		if m.history[i].k == k {
			m.history[i].hits = min(m.history[i].hits+1, 1000)
		}
	}
	x, ok := take(&m.cached, k)
	if !ok {
		return nil, false
	}
	x.hits = min(x.hits+1, 1000)
	m.cached = append(m.cached, x)
	return x.b, true
}

func TestAgainstModel(t *testing.T) { // P8.1 to P8.5
	for seed := range int64(20) {
		rnd := rand.New(rand.NewSource(seed))
		limit := 64 * rnd.Intn(60)
		r, m := New(limit), &model{limit: limit}
		for range 4000 {
			k := key(rnd.Intn(90))
			switch rnd.Intn(8) {
			case 0, 1, 2:
				b := make([]byte, rnd.Intn(1+rnd.Intn(400)))
				rnd.Read(b)
				if r.Put(k, b) != m.put(k, b) {
					t.Fatal("put")
				}
			case 3:
				_, want := take(&m.cached, k)
				take(&m.history, k)
				if r.Drop(k) != want {
					t.Fatal("drop")
				}
			default:
				b, ok := r.Get(k)
				want, wantOk := m.get(k)
				if ok != wantOk || !bytes.Equal(b, want) {
					t.Fatal("get")
				}
			}
			m.history = m.history[max(0, len(m.history)-len(m.cached)-16):]
			same := func(l []api.Key, w []item) bool {
				return slices.EqualFunc(l, w, func(k api.Key, x item) bool { return k == x.k && r.Hits(k) == x.hits })
			}
			if !same(r.Keys(), m.cached) || !same(r.History(), m.history) || r.Used() != m.used() || r.Used() > limit {
				t.Fatal("lists")
			}
		}
	}
}
