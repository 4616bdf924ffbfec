package line

import (
	"math"
	"math/rand"
	"slices"
	"strings"
	"testing"

	"ambry/api"
)

func TestQuote(t *testing.T) { // P27.1
	for s, want := range map[string]string{
		"": `""`, "ab c": `"ab c"`, `a"b\c`: `"a\"b\\c"`, "\x00\x1f \x7e\x7f\x80\xff\n": `"\x00\x1f ~\x7f\x80\xff\x0a"`, "é": `"\xc3\xa9"`,
	} {
		if got := Quote(s); got != want {
			t.Errorf("%q: %s", s, got)
		}
		if got, ok := Unquote(want); got != s || !ok {
			t.Errorf("%s: %q", want, got)
		}
	}
	if got, ok := Unquote(`"\xC3\x0A"`); got != "\xc3\n" || !ok {
		t.Error("capitals")
	}
	for _, s := range []string{
		"", `"`, "a", `"a`, `a"`, `"a"b`, `"a""`, `"\"`, `"\`, `"\a"`, `"\x4"`, `"\x41"`, `"\x20"`, `"\x7e"`, `"\x22"`, `"\x5c"`, `"\xg0"`, `"\X00"`,
		"\"\n\"", "\"\x7f\"", "\"\xff\"", ` ""`, `"" `, `"\x0`, `"\x`,
	} {
		if got, ok := Unquote(s); got != "" || ok {
			t.Errorf("%s: %q", s, got)
		}
	}
	for c := range 256 { // each byte has one form, hexadecimal digits aside
		s := string([]byte{byte(c)})
		if got, ok := Unquote(Quote("x" + s + "y")); !ok || got != "x"+s+"y" {
			t.Error(c)
		}
	}
}

func TestText(t *testing.T) { // P27.2, and the example
	if got := Text(api.Line{Method: "GET", Host: "h", Target: "/", Status: 200, Size: 5}); got != `Thu, 01 Jan 1970 00:00:00 GMT hit "GET" "h" "/" 200 5` {
		t.Error(got)
	}
	for how, want := range map[int]string{0: "hit", 1: "miss", 2: "check", 3: "deny", 4: "error", 5: "console", 6: "6", -1: "0", 99: "99", math.MinInt: "0"} {
		l := api.Line{Time: -5, How: how, Status: -1, Size: -2, Host: "\n"}
		if got := Text(l); got != `Thu, 01 Jan 1970 00:00:00 GMT `+want+` "" "\x0a" "" 0 0` {
			t.Error(got)
		}
	}
}

func TestParse(t *testing.T) { // P27.2
	const when = "Sun, 06 Nov 1994 08:49:37 GMT"
	l, e := Parse(when + ` check "G\"E" "h \\" "\xFF" 0 999999999`)
	if e != api.OK || l != (api.Line{Time: 784111777, How: 2, Method: `G"E`, Host: `h \`, Target: "\xff", Size: 999999999}) {
		t.Errorf("%+v %v", l, e)
	}
	good := when + ` hit "GET" "h" "/" 200 5`
	if _, e := Parse(good); e != api.OK {
		t.Fatal(e)
	}
	for i := range good {
		if l, e := Parse(good[:i]); e != api.ErrEntry || l != (api.Line{}) {
			t.Errorf("%q: %v", good[:i], e)
		}
	}
	for _, s := range []string{
		good + " ", good + "\n", " " + good, strings.Replace(good, "hit ", "hit  ", 1), strings.Replace(good, " hit", "hit", 1), strings.Replace(good, "hit", "Hit", 1),
		strings.Replace(good, "hit", "0", 1), strings.Replace(good, "hit", "6", 1), strings.Replace(good, "hit", "", 1), strings.Replace(good, "200", "0200", 1),
		strings.Replace(good, "200", "00", 1), strings.Replace(good, "200", "-1", 1), strings.Replace(good, "200", "1234567890", 1), strings.Replace(good, "200", "", 1),
		strings.Replace(good, `"h"`, "h", 1), strings.Replace(good, `"h"`, `"\x41"`, 1), strings.Replace(good, `"h" `, `"h"`, 1), strings.Replace(good, "Sun", "Mon", 1),
		"Sunday, 06-Nov-94 08:49:37 GMT hit \"GET\" \"h\" \"/\" 200 5", "Friday, 06-Nov-70 08:49:37 GMT hit \"GET\" \"h\" \"/\" 200 5",
		"Sun Nov  6 08:49:37 1994      hit \"GET\" \"h\" \"/\" 200 5", good + " 5", strings.Replace(good, " 5", "\t5", 1),
	} {
		if l, e := Parse(s); e != api.ErrEntry || l != (api.Line{}) {
			t.Errorf("%q: %+v", s, l)
		}
	}
}

func TestReadBack(t *testing.T) { // P27.4
	r := rand.New(rand.NewSource(27))
	text := func() string {
		b := make([]byte, r.Intn(20))
		r.Read(b)
		return string(b)
	}
	for range 3000 {
		l := api.Line{Time: r.Int63n(api.MaxTime + 1), How: r.Intn(6), Method: text(), Host: text(), Target: text(), Status: r.Intn(1000), Size: r.Intn(1e9)}
		if got, e := Parse(Text(l)); e != api.OK || got != l {
			t.Fatalf("%s: %+v", Text(l), got)
		}
	}
}

func TestLog(t *testing.T) { // P27.3
	for most, want := range map[int]int{-1: 0, 0: 0, 1: 1, 7: 7, 200: 200, 201: 200, math.MaxInt: 200} {
		g := New(most)
		if g.Len() != 0 || g.Last(5) != nil && len(g.Last(5)) > 0 {
			t.Error("not empty")
		}
		var all []api.Line
		for i := range 450 {
			l := api.Line{Time: int64(i)}
			g.Add(l)
			all = append(all, l)
			all = all[max(len(all)-want, 0):]
			if g.Len() != len(all) {
				t.Fatal(most, g.Len())
			}
			for _, n := range []int{-1, 0, 1, 3, want - 1, want, 999, math.MinInt, math.MaxInt} {
				if !slices.Equal(g.Last(n), all[len(all)-min(max(n, 0), len(all)):]) {
					t.Fatal(most, i, n)
				}
			}
		}
		if want > 0 {
			g.Last(1)[0].Time = -1
			if g.Last(1)[0].Time != 449 {
				t.Error("shared")
			}
		}
	}
}
