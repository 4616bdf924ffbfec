package edge

import "testing"

func TestDecoded(t *testing.T) { // P31.5
	if s, ok := decoded("a+b%41%2b%00"); s != "a bA+\x00" || !ok {
		t.Errorf("%q", s)
	}
	for _, s := range []string{"%", "%4", "%zz"} {
		if got, ok := decoded(s); ok || got != "" {
			t.Errorf("%q", s)
		}
	}
}
