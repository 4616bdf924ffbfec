package text

import (
	"slices"
	"testing"
)

func TestWordsAndTrim(t *testing.T) {
	for s, want := range map[string][]string{
		"":               nil,
		" \t ":           nil,
		"a":              {"a"},
		" a\t \tb\nc \t": {"a", "b\nc"},
		"\xff \u00a0x":   {"\xff", "\u00a0x"},
	} {
		if got := Words(s); !slices.Equal(got, want) {
			t.Errorf("%q: %q", s, got)
		}
	}
	if Trim("\t a b\r\t ") != "a b\r" {
		t.Error("trim")
	}
}

func TestLetters(t *testing.T) {
	if Lower("AzZ[@\xc0É") != "azz[@\xc0É" {
		t.Errorf("%q", Lower("AzZ[@\xc0É"))
	}
	for c, want := range map[byte]bool{'a': true, 'Z': true, '[': false, '@': false, '0': false, '`': false, '{': false} {
		if Letter(c) != want {
			t.Errorf("%c", c)
		}
	}
}

func TestNumber(t *testing.T) {
	for _, c := range []struct {
		s    string
		most int
		want int
		ok   bool
	}{
		{"0", 1, 0, true}, {"007", 3, 7, true}, {"123456789012345678", 18, 123456789012345678, true},
		{"", 3, 0, false}, {"1234", 3, 0, false}, {"1a", 3, 0, false}, {"-1", 3, 0, false}, {" 1", 3, 0, false}, {"1:", 3, 0, false}, {"/", 3, 0, false},
	} {
		if n, ok := Number(c.s, c.most); n != c.want || ok != c.ok {
			t.Errorf("%q: %d %v", c.s, n, ok)
		}
	}
}

func TestHex(t *testing.T) {
	for s, want := range map[string]int{"00": 0, "7e": 0x7e, "Fa": 0xfa, "9Gx": -1, "g0": -1, "1": -1, "": -1, "A5 and more": 0xa5} {
		c, ok := HexByte(s)
		if ok != (want >= 0) || ok && int(c) != want {
			t.Errorf("%q: %x %v", s, c, ok)
		}
	}
}
