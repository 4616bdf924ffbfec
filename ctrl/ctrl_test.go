package ctrl

import (
	"math"
	"math/rand"
	"testing"

	"ambry/api"
)

// said answers a control of which nothing is said, but what change says.
func said(change func(c *api.Control)) api.Control {
	c := api.Control{MaxAge: -1, SMaxAge: -1, MinFresh: -1, MaxStale: -1}
	change(&c)
	return c
}

func TestSeconds(t *testing.T) { // P13.1
	for s, want := range map[string]int64{
		"": -1, "0": 0, "007": 7, "2147483646": 2147483646, "2147483647": 2147483647, "2147483648": 2147483647,
		"99999999999999999999999999": 2147483647, "-1": -1, "+1": -1, "1.5": -1, " 1": -1, "1 ": -1, "a": -1, "99999999999999999999x": -1, "\"5\"": -1,
	} {
		if got := Seconds(s); got != want {
			t.Errorf("%q: %d", s, got)
		}
	}
}

func TestParse(t *testing.T) { // P13.2, and the example
	for v, change := range map[string]func(c *api.Control){
		"":                                func(c *api.Control) {},
		"what, else=5":                    func(c *api.Control) {},
		"NO-STORE":                        func(c *api.Control) { c.NoStore = true },
		"no-cache":                        func(c *api.Control) { c.NoCache = true },
		"no-cache=\"a, private\"":         func(c *api.Control) { c.NoCache = true },
		"private":                         func(c *api.Control) { c.Private = true },
		"Private=x":                       func(c *api.Control) { c.Private = true },
		"public , must-revalidate":        func(c *api.Control) { c.Public, c.MustRevalidate = true, true },
		"proxy-revalidate,only-if-cached": func(c *api.Control) { c.ProxyRevalidate, c.OnlyIfCached = true, true },
		"no-store=1, public=0":            func(c *api.Control) { c.NoStore, c.Public = true, true },
		`must-revalidate=, proxy-revalidate=1, only-if-cached=""`: func(c *api.Control) {
			c.MustRevalidate, c.ProxyRevalidate, c.OnlyIfCached = true, true, true
		},
		`No-Store="x, public"`:        func(c *api.Control) { c.NoStore = true },
		"no-store==":                  func(c *api.Control) { c.NoStore = true },
		"no-store =1, public\t=":      func(c *api.Control) {},
		"no-store= 1, public= ":       func(c *api.Control) { c.NoStore, c.Public = true, true },
		"no-stored=1, \"public\"":     func(c *api.Control) {},
		"x=no-store, =public":         func(c *api.Control) {},
		"public, public=1":            func(c *api.Control) { c.Public = true },
		"max-age=5, max-age=3":        func(c *api.Control) { c.MaxAge = 3 },
		"Max-Age=3, max-age=5":        func(c *api.Control) { c.MaxAge = 3 },
		"max-age=5, max-age=x":        func(c *api.Control) { c.MaxAge = 0 },
		"max-age":                     func(c *api.Control) { c.MaxAge = 0 },
		"max-age=":                    func(c *api.Control) { c.MaxAge = 0 },
		"max-age=-1":                  func(c *api.Control) { c.MaxAge = 0 },
		"max-age= 5":                  func(c *api.Control) { c.MaxAge = 0 },
		"max-age =5":                  func(c *api.Control) {},
		"max-age=5=6":                 func(c *api.Control) { c.MaxAge = 0 },
		"max-age=9999999999":          func(c *api.Control) { c.MaxAge = api.MaxAge },
		`max-age="5"`:                 func(c *api.Control) { c.MaxAge = 5 },
		`max-age="\5\6"`:              func(c *api.Control) { c.MaxAge = 56 },
		`max-age=""`:                  func(c *api.Control) { c.MaxAge = 0 },
		`max-age="5`:                  func(c *api.Control) { c.MaxAge = 0 },
		`max-age="5"6`:                func(c *api.Control) { c.MaxAge = 0 },
		`max-age="5\"`:                func(c *api.Control) { c.MaxAge = 0 },
		`max-age="`:                   func(c *api.Control) { c.MaxAge = 0 },
		"s-maxage=7,min-fresh=8":      func(c *api.Control) { c.SMaxAge, c.MinFresh = 7, 8 },
		"s-maxage, min-fresh=x":       func(c *api.Control) { c.SMaxAge, c.MinFresh = 0, 0 },
		"max-stale":                   func(c *api.Control) { c.MaxStaleAny = true },
		"max-stale=9":                 func(c *api.Control) { c.MaxStale = 9 },
		"max-stale=x":                 func(c *api.Control) { c.MaxStale = 0 },
		"max-stale=":                  func(c *api.Control) { c.MaxStale = 0 },
		"max-stale, max-stale=9":      func(c *api.Control) { c.MaxStaleAny, c.MaxStale = true, 9 },
		"x=\"no-store, public\", =5,": func(c *api.Control) {},
	} {
		if got := Parse([]api.Field{{Name: "cache-CONTROL", Value: v}}); got != said(change) {
			t.Errorf("%s: %+v", v, got)
		}
	}
	two := []api.Field{{Name: "Cache-Control", Value: "max-age=9"}, {Name: "Other", Value: "no-store"}, {Name: "Cache-Control", Value: "max-age=4"}}
	if got := Parse(two); got != said(func(c *api.Control) { c.MaxAge = 4 }) {
		t.Errorf("%+v", got)
	}
	if got := Parse(nil); got != said(func(c *api.Control) {}) {
		t.Errorf("%+v", got)
	}
}

func TestPragma(t *testing.T) { // P13.2
	pragma := func(v string) api.Field { return api.Field{Name: "pragma", Value: v} }
	for _, c := range []struct {
		l    []api.Field
		want bool
	}{
		{[]api.Field{pragma("x, NO-cache")}, true},
		{[]api.Field{pragma("x")}, false},
		{[]api.Field{pragma("no-cache=1")}, false},
		{[]api.Field{pragma("no-cache"), {Name: "Cache-Control", Value: ""}}, false},
		{[]api.Field{pragma("x"), pragma("no-cache")}, true},
	} {
		if got := Parse(c.l); got.NoCache != c.want {
			t.Errorf("%v: %v", c.l, got.NoCache)
		}
	}
}

// made answers a control of these.
func made(flag func() bool, n [4]int64) api.Control {
	return api.Control{
		NoStore: flag(), NoCache: flag(), Private: flag(), Public: flag(), MustRevalidate: flag(), ProxyRevalidate: flag(),
		OnlyIfCached: flag(), MaxStaleAny: flag(), MaxAge: n[0], SMaxAge: n[1], MinFresh: n[2], MaxStale: n[3],
	}
}

func TestText(t *testing.T) { // P13.3
	all := made(func() bool { return true }, [4]int64{1, 2, 3, 4})
	if got := Text(all); got != "no-store, no-cache, private, public, must-revalidate, proxy-revalidate, only-if-cached, max-age=1, s-maxage=2, min-fresh=3, max-stale, max-stale=4" {
		t.Error(got)
	}
	if got := Text(api.Control{MaxAge: -1, SMaxAge: -9, MinFresh: math.MinInt64, MaxStale: -1}); got != "" {
		t.Error(got)
	}
	if got := Text(api.Control{}); got != "max-age=0, s-maxage=0, min-fresh=0, max-stale=0" {
		t.Error(got)
	}
	if got := Text(api.Control{MaxAge: math.MaxInt64, SMaxAge: -1, MinFresh: -1, MaxStale: -1}); got != "max-age=2147483647" {
		t.Error(got)
	}
}

func TestReadBack(t *testing.T) { // P13.4
	r := rand.New(rand.NewSource(13))
	flip := func() bool { return r.Intn(2) == 0 }
	num := func() int64 { return []int64{-1, 0, api.MaxAge, r.Int63n(api.MaxAge)}[r.Intn(4)] }
	for range 1000 {
		c := made(flip, [4]int64{num(), num(), num(), num()})
		if got := Parse([]api.Field{{Name: "Cache-Control", Value: Text(c)}}); got != c {
			t.Fatalf("%s: %+v", Text(c), got)
		}
	}
}
