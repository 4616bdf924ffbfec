package glob

import (
	"math/rand"
	"regexp"
	"strings"
	"testing"

	"ambry/api"
)

func TestValid(t *testing.T) { // P24.1
	long := strings.Repeat("a", 200)
	for _, p := range []string{"", "a", "*", "***", "?", `\*`, `\\`, `a\\`, `\a`, long, strings.Repeat(`\a`, 100), "[", "\xff"} {
		if e := Valid(p); e != api.OK {
			t.Errorf("%.9q: %v", p, e)
		}
	}
	for _, p := range []string{`\`, `a\`, `\\\`, `**\`, long + "a", strings.Repeat("*", 201), long[1:] + `\`} {
		if e := Valid(p); e != api.ErrGlob || Match(p, p) || Match(p, "") {
			t.Errorf("%.9q: %v", p, e)
		}
	}
}

func TestMatch(t *testing.T) { // P24.1, P24.2, and the example
	for _, c := range []struct {
		p, s string
		want bool
	}{
		{"/a/*.js", "/a/b.js", true}, {"/a/*.js", "/a/b/c.js", false}, {"/a/**", "/a/b.js", true}, {"/a/**", "/a/b/c.js", true}, {"/a/**", "/a/", true}, {"/a/**", "/a", false},
		{"", "", true}, {"", "a", false}, {"a", "", false}, {"*", "", true}, {"**", "", true}, {"?", "", false}, {"?", "a", true}, {"?", "/", false}, {"?", "ab", false}, {"*", "/", false},
		{"**", "/\n\xff", true}, {"*", "\n\xff", true}, {"a*b*c", "aXbYbZc", true}, {"a*b*c", "aXbY/bZc", false}, {"a**c", "a/b/c", true}, {"***", "a/b", true}, {"***/", "a/b", false},
		{"a***", "a/b/", true}, {`\*`, "*", true}, {`\*`, "a", false}, {`\a`, "a", true}, {`\/`, "/", true}, {`\\`, `\`, true}, {`a\?b`, "a?b", true}, {`a\?b`, "axb", false},
		{"a", "A", false}, {"ab", "a", false}, {"a", "ab", false}, {"**a**", "bab", true}, {"**a**", "bb", false}, {"*/*", "a/b", true}, {"*/*", "a/b/c", false}, {"**/", "a/b/", true},
	} {
		if got := Match(c.p, c.s); got != c.want {
			t.Errorf("%q %q: %v", c.p, c.s, got)
		}
	}
}

func TestCost(t *testing.T) { // P24.2: it ends soon
	if Match(strings.Repeat("*a", 99), strings.Repeat("a", 50000)+"b") || !Match(strings.Repeat("**a", 66), strings.Repeat("a", 50000)) {
		t.Error("match")
	}
}

func TestAgainstExpressions(t *testing.T) { // P24.1, P24.2
	r := rand.New(rand.NewSource(24))
	make1 := func(signs string, n int) string {
		var b strings.Builder
		for range r.Intn(n) {
			b.WriteByte(signs[r.Intn(len(signs))])
		}
		return b.String()
	}
	for range 20000 {
		p, s := make1(`ab/**?\`, 8), make1(`ab/*\`, 8)
		if Valid(p) != api.OK {
			continue
		}
		var e strings.Builder
		for i := 0; i < len(p); i++ {
			switch {
			case strings.HasPrefix(p[i:], "**"):
				e.WriteString("(?s:.*)")
				i++
			case p[i] == '*':
				e.WriteString("[^/]*")
			case p[i] == '?':
				e.WriteString("[^/]")
			case p[i] == '\\':
				i++
				fallthrough
			default:
				e.WriteString(regexp.QuoteMeta(p[i : i+1]))
			}
		}
		if want := regexp.MustCompile("^" + e.String() + "$").MatchString(s); Match(p, s) != want {
			t.Fatalf("%q %q: %v", p, s, !want)
		}
	}
}

func TestLiteral(t *testing.T) { // P24.2, P24.3
	if got := Literal(`a*b?c\d/**`); got != `a\*b\?c\\d/\*\*` {
		t.Error(got)
	}
	r := rand.New(rand.NewSource(25))
	for range 2000 {
		a, b := make([]byte, r.Intn(5)), make([]byte, r.Intn(5))
		for _, x := range [][]byte{a, b} {
			for i := range x {
				x[i] = `*?\/a`[r.Intn(5)]
			}
		}
		if Match(Literal(string(a)), string(b)) != (string(a) == string(b)) {
			t.Fatalf("%q %q", a, b)
		}
	}
}
