// Package text has what several layers ask of texts, byte by byte.
package text

import "strings"

// blanks: what stands between words, and about values.
const blanks = " \t"

// Blank: a space or a tab.
func Blank(c byte) bool { return c == ' ' || c == '\t' }

// Trim leaves the blanks about s out.
func Trim(s string) string { return strings.Trim(s, blanks) }

// Words cuts s at its blanks.
func Words(s string) []string {
	return strings.FieldsFunc(s, func(r rune) bool { return r == ' ' || r == '\t' })
}

// Digit: from 0 to 9.
func Digit(c byte) bool { return '0' <= c && c <= '9' }

// Letter: of ASCII.
func Letter(c byte) bool { return 'a' <= Small(c) && Small(c) <= 'z' }

// Small answers the small letter of a capital of ASCII, and any other byte itself.
func Small(c byte) byte {
	if 'A' <= c && c <= 'Z' {
		return c + 'a' - 'A'
	}
	return c
}

// Lower answers s with small letters for the capitals of ASCII.
func Lower(s string) string {
	b := []byte(s)
	for i, c := range b {
		b[i] = Small(c)
	}
	return string(b)
}

// Number answers the number that s is: 1 to most decimal digits (at most 18); and whether it is one.
func Number(s string, most int) (int, bool) {
	if len(s) == 0 || len(s) > most {
		return 0, false
	}
	n := 0
	for i := range len(s) {
		if !Digit(s[i]) {
			return 0, false
		}
		n = n*10 + int(s[i]-'0')
	}
	return n, true
}

// Hex answers what a hexadecimal digit is worth, and whether it is one.
func Hex(c byte) (int, bool) {
	switch s := Small(c); {
	case Digit(s):
		return int(s - '0'), true
	case 'a' <= s && s <= 'f':
		return int(s-'a') + 10, true
	}
	return 0, false
}

// HexByte answers the byte that s begins with as two hexadecimal digits, and whether it does.
func HexByte(s string) (byte, bool) {
	if len(s) < 2 {
		return 0, false
	}
	high, ok := Hex(s[0])
	low, also := Hex(s[1])
	return byte(high<<4 | low), ok && also
}
