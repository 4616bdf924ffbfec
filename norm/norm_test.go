package norm

import (
	"math/rand"
	"strings"
	"testing"
)

func TestSplit(t *testing.T) { // P23.1
	for _, c := range []struct {
		in, path, query string
		ok              bool
	}{{"", "", "", false}, {"/a", "/a", "", false}, {"/a?", "/a", "", true}, {"/a?b?c", "/a", "b?c", true}, {"?b", "", "b", true}} {
		if p, q, ok := Split(c.in); p != c.path || q != c.query || ok != c.ok {
			t.Errorf("%q: %q %q %v", c.in, p, q, ok)
		}
	}
}

func TestEscapes(t *testing.T) { // P23.1
	for in, want := range map[string]string{
		"": "", "/a?b": "/a?b", "%41%7a%30%2d%2E%5f%7E": "Az0-._~", "%2f%3F%25": "%2F%3F%25", "%c3%BF%00": "%C3%BF%00", "a%2541": "a%2541", "x%20y": "x%20y", "\xff%ff": "\xff%FF",
	} {
		if got, ok := Escapes(in); got != want || !ok {
			t.Errorf("%q: %q %v", in, got, ok)
		}
	}
	for _, in := range []string{"%", "a%2", "%g1", "%1g", "%%41", "%4%31", "a%", "% 41", "%+1"} {
		if got, ok := Escapes(in); got != "" || ok {
			t.Errorf("%q: %q", in, got)
		}
	}
}

func TestDots(t *testing.T) { // P23.2
	for in, want := range map[string]string{
		"": "/", "/": "/", "a": "/a", "/a": "/a", "/a/": "/a/", "/.": "/", "/..": "/", "/a/.": "/a/", "/a/..": "/", "/a/b/..": "/a/", "/a/./b": "/a/b",
		"/a/../b": "/b", "/../../a": "/a", "/a/b/../../c/": "/c/", "/a/b/../..": "/", "//": "//", "/a//b": "/a//b", "/a//": "/a//", "/a//..": "/a/", "//..": "/",
		"/..//a": "//a", "/...": "/...", "/.a/..b/c.": "/.a/..b/c.", "a/../b": "/b", ".": "/", "..": "/", "./a": "/a", "/a/..//": "//", "/a/../": "/", "///": "///", "/./": "/",
		"/a/b/c/./../../g": "/a/g", "mid/content=5/../6": "/mid/6",
	} {
		if got := Dots(in); got != want {
			t.Errorf("%q: %q, want %q", in, got, want)
		}
	}
}

func TestTarget(t *testing.T) { // P23.3, and the example
	for in, want := range map[string]string{
		"/a/./b/../c%7e?x%2f": "/a/c~?x%2F", "/%2e%2E/a": "/a", "/a/%2e./b?../%61": "/b?../a", "/?": "/?", "/a%3fb": "/a%3Fb", "?x": "/?x", "/a?b?/../c": "/a?b?/../c",
	} {
		if got, ok := Target(in); got != want || !ok {
			t.Errorf("%q: %q %v", in, got, ok)
		}
	}
	for _, in := range []string{"/%", "/a?%zz"} {
		if got, ok := Target(in); got != "" || ok {
			t.Errorf("%q: %q", in, got)
		}
	}
}

func TestHost(t *testing.T) { // P23.3
	for in, want := range map[string]string{"": "", "H.Example": "h.example", "h:80": "h", "h:8080": "h:8080", "h:80:80": "h:80", ":80": "", "h:080": "h:080", "\xc4": "\xc4"} {
		if got := Host(in); got != want {
			t.Errorf("%q: %q", in, got)
		}
	}
}

func TestTargetOfTargetIsIt(t *testing.T) { // P23.4
	r := rand.New(rand.NewSource(23))
	pieces := []string{"/", ".", "..", "a", "%2e", "%2E", "%41", "%2f", "?", "%25", "%3f", "//", "%", "4", "\xff"}
	for range 20000 {
		var b strings.Builder
		for range r.Intn(9) {
			b.WriteString(pieces[r.Intn(len(pieces))])
		}
		got, ok := Target(b.String())
		if !ok {
			continue
		}
		if again, ok := Target(got); again != got || !ok {
			t.Fatalf("%q: %q, %q", b.String(), got, again)
		}
	}
}
