package chunk

import (
	"bytes"
	"math"
	"math/rand"
	"slices"
	"strings"
	"testing"

	"ambry/api"
)

func TestOpen(t *testing.T) { // P11.1, and the example
	for in, want := range map[string]string{
		"3\r\nabc\r\n0\r\n\r\n":                                 "abc",
		"0\r\n\r\n":                                             "",
		"00000000\r\n\r\n":                                      "",
		"00000003\r\nabc\r\n1\r\nd\r\n0\r\n\r\n":                "abcd",
		"A\r\n0123456789\r\na\r\n0123456789\r\n0\r\n\r\n":       "01234567890123456789",
		"1;x=y\r\na\r\n0; end \t\r\n\r\n":                       "a",
		"1;\r\n\n\r\n0;\xff\r\n\r\n":                            "\n",
		"2\r\n\r\n\r\n0\r\nA: b\r\nC:\r\n\r\n":                  "\r\n",
		"1;" + strings.Repeat("x", 1022) + "\r\na\r\n0\r\n\r\n": "a",
		"0\r\nA:" + strings.Repeat("x", 1022) + "\r\n\r\n":      "",
		"0\r\n" + strings.Repeat("a: b\r\n", 100) + "\r\n":      "",
	} {
		body, n, e := Open([]byte(in + "behind"))
		if e != api.OK || string(body) != want || n != len(in) {
			t.Errorf("%.40q: %q %d %v", in, body, n, e)
		}
		for i := range in { // every beginning of it is too short
			if body, n, e := Open([]byte(in[:i])); e != api.ErrShort || body != nil || n != 0 {
				t.Errorf("%.40q: %q %d %v", in[:i], body, n, e)
			}
		}
	}
}

func TestOpenRefuses(t *testing.T) { // P11.1
	const frame, long, short = api.ErrFrame, api.ErrLong, api.ErrShort
	for in, want := range map[string]api.Errno{
		"":                                    short,
		"x\r\n":                               frame,
		"x":                                   short, // a line is asked once it is whole
		"\r\n":                                frame,
		"\n":                                  frame,
		"3\nabc":                              frame,
		"3\rx":                                frame,
		"3\r":                                 short,
		"3\r\r\n":                             frame,
		"-1\r\n":                              frame,
		"+1\r\n":                              frame,
		"0x1\r\n":                             frame,
		" 1\r\n":                              frame,
		"1 \r\n":                              frame,
		"1 ;a\r\n":                            frame,
		"1;a\x00\r\n":                         frame,
		"1;a\x7f\r\n":                         frame,
		"1;a\nb\r\n":                          frame,
		"1;a\x00":                             short,
		";a\r\n":                              frame,
		"000000001\r\na\r\n":                  frame, // nine digits
		"ffffffff\r\n":                        long,
		"10001\r\n":                           long,
		"10000\r\n":                           short,
		"3\r\nabcd\r\n":                       frame,
		"3\r\nabc\n":                          frame,
		"3\r\nabc\rx":                         frame,
		"3\r\nabc\r":                          short,
		"3\r\nab\r\n0\r\n\r\n":                frame, // its third byte is the CR
		"0\r\nwrong\r\n":                      frame,
		"0\r\nwrong":                          short,
		"0\r\n a: b\r\n":                      frame,
		"0\r\na: b\nc: d\r\n":                 frame,
		"0\r\n\rx":                            frame,
		strings.Repeat("1", 1025):             frame, // a line's length is asked at once
		strings.Repeat("1", 1024):             short,
		strings.Repeat("1", 1024) + "\r":      short,
		"1;" + strings.Repeat("x", 1023):      frame,
		"0\r\na:" + strings.Repeat("x", 1023): frame,
		"0\r\n" + strings.Repeat("a: b\r\n", 101): frame,
		"0\r\n" + strings.Repeat("a: b\r\n", 100): short,
	} {
		if body, n, e := Open([]byte(in)); e != want || body != nil || n != 0 {
			t.Errorf("%.40q: %q %d %v", in, body, n, e)
		}
	}
}

func TestBytesThatLack(t *testing.T) { // P11.1
	for _, lack := range []int{1, 2, 3, 100, 999} {
		b := append([]byte("3e8\r\n"), make([]byte, 1000-lack)...)
		if _, _, e := Open(slices.Clip(b)); e != api.ErrShort {
			t.Error(lack, e)
		}
	}
}

func TestMaxBody(t *testing.T) { // P11.1
	full := bytes.Repeat([]byte("z"), api.MaxBody)
	for _, size := range []int{1000, api.MaxBody, math.MaxInt} {
		b := Bytes(full, size)
		if body, n, e := Open(b); e != api.OK || !bytes.Equal(body, full) || n != len(b) {
			t.Error(size, e)
		}
		if _, _, e := Open(append(b[:len(b)-5:len(b)-5], "1\r\n"...)); e != api.ErrLong { // told ahead of its bytes
			t.Error(size, e)
		}
	}
}

func TestBytes(t *testing.T) { // P11.2
	for _, c := range []struct {
		body string
		size int
		want string
	}{
		{"", 5, "0\r\n\r\n"}, {"abc", 2, "2\r\nab\r\n1\r\nc\r\n0\r\n\r\n"}, {"ab", 0, "1\r\na\r\n1\r\nb\r\n0\r\n\r\n"},
		{"ab", math.MinInt, "1\r\na\r\n1\r\nb\r\n0\r\n\r\n"}, {"abc", 3, "3\r\nabc\r\n0\r\n\r\n"},
		{"0123456789ab", 11, "b\r\n0123456789a\r\n1\r\nb\r\n0\r\n\r\n"}, {strings.Repeat("x", 171), 999, "ab\r\n" + strings.Repeat("x", 171) + "\r\n0\r\n\r\n"},
	} {
		if got := string(Bytes([]byte(c.body), c.size)); got != c.want {
			t.Errorf("%q by %d: %q", c.body, c.size, got)
		}
	}
}

func TestReadBack(t *testing.T) { // P11.3
	r := rand.New(rand.NewSource(11))
	for range 300 {
		body := make([]byte, r.Intn(2000))
		r.Read(body)
		b := Bytes(body, r.Intn(300))
		got, n, e := Open(append(b, 'x'))
		if e != api.OK || n != len(b) || !bytes.Equal(got, body) {
			t.Fatal(e)
		}
		clear(b)
		if !bytes.Equal(got, body) {
			t.Fatal("shared")
		}
	}
}
