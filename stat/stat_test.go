package stat

import (
	"math"
	"math/rand"
	"slices"
	"sync"
	"testing"

	"ambry/api"
)

func TestAdd(t *testing.T) { // P28.1, and the example
	s := New()
	s.Add(0, 200, 5)
	s.Add(5, 599, 0)
	s.Add(6, 100, -9)
	s.Add(-1, 99, 1)
	s.Add(1, 600, 1<<30)
	s.Add(math.MaxInt, -200, math.MaxInt)
	s.Add(math.MinInt, math.MinInt, math.MinInt)
	for how, want := range map[int]int64{0: 1, 1: 1, 2: 0, 5: 1, 6: 0, -1: 0, math.MaxInt: 0, math.MinInt: 0} {
		if s.Of(how) != want {
			t.Error("of", how, s.Of(how))
		}
	}
	for n, want := range map[int]int64{0: 0, 1: 1, 2: 1, 3: 0, 5: 1, 6: 0, -2: 0, math.MinInt: 0} {
		if s.Class(n) != want {
			t.Error("class", n, s.Class(n))
		}
	}
	if s.Bytes() != 6+2*(1<<30) {
		t.Error(s.Bytes())
	}
	want := make([]int64, 32)
	want[0], want[1], want[3], want[31] = 3, 1, 1, 2
	if got := s.Sizes(); !slices.Equal(got, want) {
		t.Error(got)
	}
	s.Sizes()[0] = 77
	if s.Sizes()[0] != 3 {
		t.Error("shared")
	}
}

func TestBuckets(t *testing.T) { // P28.1
	for k := 1; k < 31; k++ {
		for _, size := range []int{1 << (k - 1), 1<<k - 1} {
			s := New()
			s.Add(0, 0, size)
			if s.Sizes()[k] != 1 {
				t.Error(size)
			}
		}
	}
}

func TestQuantile(t *testing.T) { // P28.2
	s := New()
	if s.Quantile(50) != 0 {
		t.Error("none")
	}
	for range 10 {
		s.Add(0, 0, 0)
	}
	for range 5 {
		s.Add(0, 0, 3)
	}
	for range 5 {
		s.Add(0, 0, 1000)
	}
	for per, want := range map[int]int{-5: 0, 0: 0, 1: 0, 50: 0, 51: 3, 75: 3, 76: 1023, 100: 1023, 999: 1023, math.MinInt: 0, math.MaxInt: 1023} {
		if got := s.Quantile(per); got != want {
			t.Errorf("%d: %d", per, got)
		}
	}
	one := New()
	one.Add(0, 0, 1<<30)
	if one.Quantile(0) != 1<<31-1 || one.Quantile(100) != 1<<31-1 { // at least one
		t.Error(one.Quantile(0))
	}
}

func TestQuantileOfAll(t *testing.T) { // P28.2, by counting
	r := rand.New(rand.NewSource(28))
	for range 200 {
		s := New()
		var sizes []int
		for range 1 + r.Intn(150) {
			size := r.Intn(1 << r.Intn(31))
			s.Add(0, 0, size)
			sizes = append(sizes, size)
		}
		slices.Sort(sizes)
		for per := range 101 {
			need := max((len(sizes)*per+99)/100, 1)
			want := 0
			for want < sizes[need-1] {
				want = want*2 + 1
			}
			if got := s.Quantile(per); got != want {
				t.Fatal(per, got, want)
			}
		}
	}
}

func TestMerge(t *testing.T) { // P28.3, P28.4
	r := rand.New(rand.NewSource(29))
	a, b, both := New(), New(), New()
	for range 300 {
		how, status, size := r.Intn(8)-1, r.Intn(700), r.Intn(1<<r.Intn(31))
		if r.Intn(2) == 0 {
			a.Add(how, status, size)
		} else {
			b.Add(how, status, size)
		}
		both.Add(how, status, size)
	}
	same := func(x, y *Stat, times int64) bool {
		ok := x.Bytes() == times*y.Bytes()
		for i := range 32 {
			ok = ok && x.Of(i) == times*y.Of(i) && x.Class(i) == times*y.Class(i) && x.Sizes()[i] == times*y.Sizes()[i]
		}
		return ok
	}
	was := b.Text()
	a.Merge(b)
	if !same(a, both, 1) || b.Text() != was {
		t.Error("merged")
	}
	a.Merge(a)
	if !same(a, both, 2) {
		t.Error("doubled")
	}
	a.Merge(nil)
	a.Merge(New())
	if !same(a, both, 2) {
		t.Error("with nothing")
	}
	for range 70 { // however great they get, it ends
		a.Merge(a)
		a.Quantile(99)
	}
}

func TestText(t *testing.T) { // P28.3
	s := New()
	for how := range api.Hows {
		for range how + 3 {
			s.Add(how, 200, 10)
		}
	}
	if got := s.Text(); got != "hit 3\nmiss 4\ncheck 5\ndeny 6\nerror 7\nconsole 8\nbytes 330\n" {
		t.Errorf("%q", got)
	}
}

func TestAddedAtOnce(t *testing.T) { // the counts are atomic
	s := New()
	var all sync.WaitGroup
	for range 8 {
		all.Go(func() {
			for range 1000 {
				s.Add(1, 200, 1)
			}
		})
	}
	all.Wait()
	if s.Of(1) != 8000 || s.Bytes() != 8000 {
		t.Error(s.Of(1))
	}
}
