package acl

import (
	"strings"
	"testing"

	"ambry/api"
)

func TestParseText(t *testing.T) { // P26.1, and the example
	for s, want := range map[string]api.Rule{
		"deny * * /private/**":           {Method: "*", Host: "*", Path: "/private/**"},
		" \tallow  GET\th.* \t /\\*\n\t": {Allow: true, Method: "GET", Host: "h.*", Path: "/\\*\n"},
	} {
		r, e := Parse(s)
		if e != api.OK || r != want {
			t.Errorf("%q: %+v %v", s, r, e)
		}
		if back, e := Parse(Text(r)); e != api.OK || back != r {
			t.Errorf("%q", Text(r))
		}
	}
	for _, s := range []string{
		"", "deny", "deny * *", "deny * * * *", "Deny * * *", "refuse * * *", "* * *", `deny \ * *`, `deny * a\ *`, `deny * * a\`,
		"deny * * " + strings.Repeat("a", 201), "deny\n* * *", "allowed * * *",
	} {
		if r, e := Parse(s); e != api.ErrRule || r != (api.Rule{}) {
			t.Errorf("%q: %v", s, e)
		}
	}
	if Text(api.Rule{Allow: true, Method: "a", Host: "b", Path: "c"}) != "allow a b c" || Text(api.Rule{Host: "b"}) != "deny  b " {
		t.Error("text")
	}
}

func TestCheck(t *testing.T) { // P26.2, P26.3
	var l []api.Rule
	for _, s := range []string{"deny DELETE * **", "allow GET h /private/open", "deny * * /private/**", `allow * other\.* **`, "deny P* h? /*"} {
		r, _ := Parse(s)
		l = append(l, r)
	}
	for i, c := range []struct {
		method, host, target string
		ok                   bool
		n                    int
	}{
		{"DELETE", "h", "/private/open", false, 0}, {"GET", "H:80", "/private/open?x", true, 1}, {"GET", "g", "/private/open", false, 2}, {"GET", "h", "/private/", false, 2},
		{"GET", "h", "/private", true, -1}, {"POST", "other.x", "/a/b", true, 3}, {"POST", "h1", "/a", false, 4}, {"POST", "h1", "/a/b", true, -1}, {"POST", "h", "/a", true, -1}, {"POST", "h1:80", "/a?b/c", false, 4},
	} {
		q := api.Request{Method: c.method, Target: c.target, Fields: []api.Field{{Name: "HOST", Value: c.host}}}
		if ok, n := Check(l, q); ok != c.ok || n != c.n {
			t.Errorf("%d: %v %d", i, ok, n)
		}
	}
	if ok, n := Check(nil, api.Request{}); !ok || n != -1 {
		t.Error("no rules")
	}
	none := []api.Rule{{Method: "*", Host: "", Path: "**"}}
	if ok, n := Check(none, api.Request{Method: "GET", Target: "/"}); ok || n != 0 {
		t.Error("no host")
	}
	wrong := []api.Rule{{Method: `\`, Host: "*", Path: "**"}}
	if ok, n := Check(wrong, api.Request{Method: `\`, Target: "/"}); !ok || n != -1 {
		t.Error("a pattern that is none")
	}
}
