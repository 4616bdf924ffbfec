package cmd

import (
	"math"
	"math/rand"
	"slices"
	"strconv"
	"strings"
	"testing"

	"ambry/api"
	"ambry/glob"
)

func TestParseText(t *testing.T) { // P30.1, and the example
	for s, want := range map[string]api.Cmd{
		"purge h/**": {What: api.CmdPurge, Word: "h/**"}, " \tshow\t *\\  ": {}, "show \\*": {What: api.CmdShow, Word: `\*`}, "log 200": {What: api.CmdLog, N: 200},
		"log 000000000": {What: api.CmdLog}, "\tstat ": {What: api.CmdStat}, "rules": {What: api.CmdRules}, "sync": {What: api.CmdSync}, "purge \n": {What: api.CmdPurge, Word: "\n"},
	} {
		c, e := Parse(s)
		if want == (api.Cmd{}) {
			if e != api.ErrCmd || c != want {
				t.Errorf("%q: %+v", s, c)
			}
			continue
		}
		if e != api.OK || c != want {
			t.Errorf("%q: %+v %v", s, c, e)
		}
		if back, e := Parse(Text(c)); e != api.OK || back != c {
			t.Errorf("%q", Text(c))
		}
	}
	for _, s := range []string{
		"", " ", "purge", "show", "log", "purge a b", "show a b", "log 1 2", "stat 1", "rules x", "sync now", "Purge a", "STAT", "what", "log 201", "log -1", "log x", "log 0000000001",
		`purge \`, "show " + strings.Repeat("a", 201), "stat\n", "stat" + strings.Repeat(" ", api.MaxText),
	} {
		if c, e := Parse(s); e != api.ErrCmd || c != (api.Cmd{}) {
			t.Errorf("%.20q: %+v %v", s, c, e)
		}
	}
	if _, e := Parse("stat" + strings.Repeat(" ", api.MaxText-4)); e != api.OK {
		t.Error("MaxText", e)
	}
	for want, c := range map[string]api.Cmd{
		"purge a": {What: api.CmdPurge, Word: "a", N: 3}, "show a": {What: api.CmdShow, Word: "a"}, "log 0": {What: api.CmdLog, N: -7}, "log 999": {What: api.CmdLog, N: 999, Word: "x"},
		"stat": {What: api.CmdStat, Word: "x"}, "rules": {What: api.CmdRules}, "sync": {What: api.CmdSync}, "": {What: 6, Word: "x"},
	} {
		if got := Text(c); got != want {
			t.Errorf("%+v: %q", c, got)
		}
	}
	if Text(api.Cmd{What: -1}) != "" || Text(api.Cmd{What: math.MaxInt}) != "" {
		t.Error("another")
	}
}

func TestKnown(t *testing.T) { // P30.2, P30.3
	k := New()
	if len(k.All()) != 0 || len(k.Match("**")) != 0 || k.Drop("h", "/") {
		t.Error("not empty")
	}
	k.Add("h", "/a")
	k.Add("h", "/b")
	k.Add("g", "/a/b")
	k.Add("h", "/a")
	is := func(got [][2]string, want ...[2]string) {
		t.Helper()
		if !slices.Equal(got, want) {
			t.Error(got)
		}
	}
	is(k.All(), [2]string{"h", "/b"}, [2]string{"g", "/a/b"}, [2]string{"h", "/a"})
	is(k.Match("h/*"), [2]string{"h", "/b"}, [2]string{"h", "/a"})
	is(k.Match("*/a"), [2]string{"h", "/a"})
	is(k.Match("**/a**"), [2]string{"g", "/a/b"}, [2]string{"h", "/a"})
	is(k.Match(`\`))
	k.All()[0] = [2]string{"x", "y"}
	if k.Drop("h", "/c") || k.Drop("h/", "b") || !k.Drop("h", "/b") || k.Drop("h", "/b") {
		t.Error("drop")
	}
	is(k.All(), [2]string{"g", "/a/b"}, [2]string{"h", "/a"})
}

func TestTheEldestGoes(t *testing.T) { // P30.2: at MaxKnown, and one past it
	k := New()
	for i := range 100 {
		k.Add("h", strconv.Itoa(i))
	}
	k.Add("h", "0")
	if l := k.All(); len(l) != 100 || l[0][1] != "1" || l[99][1] != "0" {
		t.Error(l)
	}
	k.Add("h", "100")
	if l := k.All(); len(l) != 100 || l[0][1] != "2" || l[99][1] != "100" {
		t.Error(l)
	}
}

func TestAgainstList(t *testing.T) { // P30.2
	r := rand.New(rand.NewSource(30))
	k := New()
	var l [][2]string
	for range 5000 {
		a := [2]string{"h" + strconv.Itoa(r.Intn(3)), "/" + strconv.Itoa(r.Intn(60))}
		i := slices.Index(l, a)
		if i >= 0 {
			l = slices.Delete(l, i, i+1)
		}
		if r.Intn(5) == 0 {
			if k.Drop(a[0], a[1]) != (i >= 0) {
				t.Fatal("drop")
			}
		} else {
			k.Add(a[0], a[1])
			l = append(l, a)
			l = l[max(len(l)-100, 0):]
		}
		if !slices.Equal(k.All(), l) {
			t.Fatal("order")
		}
		p := "h1/" + strconv.Itoa(r.Intn(6)) + "*"
		want := slices.DeleteFunc(slices.Clone(l), func(a [2]string) bool { return !glob.Match(p, a[0]+a[1]) })
		if !slices.Equal(k.Match(p), want) {
			t.Fatal("match")
		}
	}
}
