package head

import (
	"slices"
	"strings"
	"testing"

	"ambry/api"
)

func TestToken(t *testing.T) { // P10.1
	const signs = "!#$%&'*+-.^_`|~0123456789abcdefghijklmnopqrstuvwxyzABCDEFGHIJKLMNOPQRSTUVWXYZ"
	for c := range 256 {
		s := string([]byte{byte(c)})
		if want := strings.Contains(signs, s) && c < 128; Token(s) != want || Token("a"+s+"b") != want {
			t.Errorf("%q", s)
		}
	}
	if Token("") || !Token(signs) {
		t.Error("token")
	}
}

func TestValue(t *testing.T) { // P10.1
	for c := range 256 {
		s := string([]byte{byte(c)})
		want := c == 9 || c >= 32 && c != 127
		if Value("a"+s+"b") != want {
			t.Errorf("%q within", s)
		}
		want = want && c != 9 && c != 32
		if Value(s+"b") != want || Value("b"+s) != want || Value(s) != want {
			t.Errorf("%q at an end", s)
		}
	}
	if !Value("") {
		t.Error("empty")
	}
}

func TestSame(t *testing.T) { // P10.1
	for _, c := range []struct {
		a, b string
		want bool
	}{
		{"", "", true}, {"Host", "hOST", true}, {"a", "b", false}, {"a", "aa", false}, {"@", "`", false}, {"[", "{", false},
		{"\xc4", "\xe4", false}, {"K", "\u212a", false}, {"", "a", false},
	} {
		if Same(c.a, c.b) != c.want || Same(c.b, c.a) != c.want {
			t.Errorf("%q %q", c.a, c.b)
		}
	}
}

func field(name, value string) api.Field { return api.Field{Name: name, Value: value} }

func TestParse(t *testing.T) { // P10.2, and the example
	l, e := Parse([]string{"A:  b ", "x-Y:\t", "c:d:e", "f: \tg  h\t "})
	if e != api.OK || !slices.Equal(l, []api.Field{field("A", "b"), field("x-Y", ""), field("c", "d:e"), field("f", "g  h")}) {
		t.Error(l, e)
	}
	if l, e := Parse(nil); l != nil || e != api.OK {
		t.Error(l, e)
	}
	for _, line := range []string{"", "a", ":b", " a:b", "a :b", "a b:c", "a:b\x00c", "a:b\x7f", "\xc4:b", "a:\r", "a:b\nc: d"} {
		if l, e := Parse([]string{"good: x", line}); e != api.ErrHead || l != nil {
			t.Errorf("%q: %v %v", line, l, e)
		}
	}
	lines := slices.Repeat([]string{"a: b"}, 100)
	if l, e := Parse(lines); e != api.OK || len(l) != 100 {
		t.Error("100", e)
	}
	for _, more := range []string{"a: b", "wrong"} { // too many are named first
		if l, e := Parse(append(slices.Clone(lines), more)); e != api.ErrMany || l != nil {
			t.Error("101", e)
		}
	}
}

func TestLinesAreReadBack(t *testing.T) { // P10.2, P10.5
	l := []api.Field{field("A", "b"), field("c", ""), field("D", "e, \"f\"")}
	s := Lines(l)
	if s != "A: b\r\nc: \r\nD: e, \"f\"\r\n" || Lines(nil) != "" {
		t.Errorf("%q", s)
	}
	got, e := Parse(strings.Split(strings.TrimSuffix(s, "\r\n"), "\r\n"))
	if e != api.OK || !slices.Equal(got, l) {
		t.Error(got, e)
	}
}

func TestGetAllDropSet(t *testing.T) { // P10.3
	l := []api.Field{field("a", "1"), field("B", "2"), field("A", ""), field("b", "3")}
	if v, ok := Get(l, "A"); v != "1" || !ok {
		t.Error(v)
	}
	if v, ok := Get(l, "c"); v != "" || ok {
		t.Error(v)
	}
	if !slices.Equal(All(l, "a"), []string{"1", ""}) || All(l, "c") != nil {
		t.Error(All(l, "a"))
	}
	if got := Drop(l, "b"); !slices.Equal(got, []api.Field{field("a", "1"), field("A", "")}) {
		t.Error(got)
	}
	if got := Set(l, "A", "x"); !slices.Equal(got, []api.Field{field("B", "2"), field("b", "3"), field("A", "x")}) {
		t.Error(got)
	}
	if got := Set(nil, "n", "v"); !slices.Equal(got, []api.Field{field("n", "v")}) {
		t.Error(got)
	}
	room := append(make([]api.Field, 0, 9), l...)
	Set(room, "z", "y")[0].Name = "changed"
	Drop(room, "z")[0].Name = "changed"
	Hop(room)[0].Name = "changed"
	if !slices.Equal(room, l) || room[:5][4] != (api.Field{}) {
		t.Error("what was handed in changed")
	}
}

func TestList(t *testing.T) { // P10.3
	for v, want := range map[string][]string{
		"":                     nil,
		",, \t,":               nil,
		"a":                    {"a"},
		" a ,\tb\t,c d":        {"a", "b", "c d"},
		`"a,b",c`:              {`"a,b"`, "c"},
		`x="a\",b",c`:          {`x="a\",b"`, "c"},
		`"a\\",b`:              {`"a\\"`, "b"},
		`a\,b`:                 {`a\`, "b"},
		`a\",b",c`:             {`a\",b"`, "c"},
		`"open, a`:             {`"open, a`},
		`"end\`:                {`"end\`},
		`"a" , "b,c"d , "e`:    {`"a"`, `"b,c"d`, `"e`},
		"no-cache=\"a, b\", x": {`no-cache="a, b"`, "x"},
	} {
		if got := List([]api.Field{field("L", v)}, "l"); !slices.Equal(got, want) {
			t.Errorf("%q: %q", v, got)
		}
	}
	l := []api.Field{field("L", `a,"b`), field("M", "no"), field("l", `c",d`)} // quotes end with a value
	if got := List(l, "L"); !slices.Equal(got, []string{"a", `"b`, `c",d`}) {
		t.Errorf("%q", got)
	}
}

func TestHop(t *testing.T) { // P10.4
	var l []api.Field
	for _, n := range []string{"connection", "KEEP-ALIVE", "Proxy-Connection", "Proxy-Authenticate", "Proxy-Authorization", "te", "Trailer", "Transfer-Encoding", "Upgrade", "X-One", "x-two", "Keep", "close"} {
		l = append(l, field(n, "v"))
	}
	l = append(l, field("Connection", "close, X-ONE"), field("Connection", "x-Two"))
	if got := Hop(l); !slices.Equal(got, []api.Field{field("Keep", "v")}) {
		t.Error(got)
	}
	if got := Hop([]api.Field{field("a", "b")}); !slices.Equal(got, []api.Field{field("a", "b")}) || Hop(nil) != nil {
		t.Error(got)
	}
}
