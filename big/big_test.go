package big

import (
	"math"
	"testing"
)

func TestAppendAndOf(t *testing.T) {
	for _, c := range []struct {
		n    uint64
		size int
		want string
	}{
		{0, 0, "x"}, {0x1234, 2, "x\x12\x34"}, {0x1234, 1, "x\x34"}, {1, 4, "x\x00\x00\x00\x01"},
		{math.MaxUint64, 8, "x\xff\xff\xff\xff\xff\xff\xff\xff"},
	} {
		if got := string(Append([]byte("x"), c.n, c.size)); got != c.want {
			t.Errorf("%x: %x", c.n, got)
		}
	}
	if Of(nil) != 0 || Of([]byte{1, 2}) != 0x102 || Of([]byte{9, 0, 0, 0, 0, 0, 0, 1, 2}) != 0x102 {
		t.Error("of")
	}
}
