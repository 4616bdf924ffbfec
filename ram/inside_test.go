package ram

import (
	"math"
	"testing"
)

func TestGreatestLimit(t *testing.T) { // P8.1: above 2^30 counts as that
	if r := New(math.MaxInt); r.limit != 1<<30 {
		t.Error(r.limit)
	}
}

func TestKeepsNothingThatIsForgotten(t *testing.T) { // P8.4
	r := New(128)
	for c := range 50 {
		r.Put(key(c), nil)
	}
	if len(r.nodes) != 20 {
		t.Error(len(r.nodes))
	}
}
