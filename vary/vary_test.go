package vary

import (
	"slices"
	"testing"

	"ambry/api"
)

// of answers fields of names and values.
func of(l ...string) []api.Field {
	var f []api.Field
	for i := 0; i < len(l); i += 2 {
		f = append(f, api.Field{Name: l[i], Value: l[i+1]})
	}
	return f
}

func varying(l ...string) api.Response {
	var r api.Response
	for _, v := range l {
		r.Fields = append(r.Fields, api.Field{Name: "vary", Value: v})
	}
	return r
}

func TestNames(t *testing.T) { // P15.1
	for _, c := range []struct {
		vary []string
		want []string
		any  bool
	}{
		{nil, nil, false}, {[]string{""}, nil, false},
		{[]string{"B, a", "A,c , b", "Ä"}, []string{"a", "b", "c", "Ä"}, false},
		{[]string{"a, *"}, nil, true}, {[]string{"a", "*"}, nil, true}, {[]string{"**"}, []string{"**"}, false},
		{[]string{"x-b, x_a, x"}, []string{"x", "x-b", "x_a"}, false},
	} {
		if names, any := Names(varying(c.vary...)); !slices.Equal(names, c.want) || any != c.any {
			t.Errorf("%q: %q %v", c.vary, names, any)
		}
	}
}

func TestNormal(t *testing.T) { // P15.1
	l := of("A", "x \t y", "b", "", "a", "\tz ", "C", "p,q")
	for name, want := range map[string]string{"a": "x y, z ", "B": "", "c": "p,q"} {
		if v, ok := Normal(l, name); v != want || !ok {
			t.Errorf("%s: %q %v", name, v, ok)
		}
	}
	if v, ok := Normal(l, "d"); v != "" || ok {
		t.Errorf("%q %v", v, ok)
	}
}

func TestKeep(t *testing.T) { // P15.2
	q := of("Accept", "a,  b", "X", "1", "ACCEPT", "c", "Empty", "")
	got := Keep(varying("accept, empty, gone, Accept"), q)
	if !slices.Equal(got, of("accept", "a, b, c", "empty", "")) {
		t.Error(got)
	}
	if Keep(varying("*"), q) != nil || Keep(varying(), q) != nil {
		t.Error("nothing is named")
	}
}

func TestMatch(t *testing.T) { // P15.2, and the example
	for i, c := range []struct {
		vary      string
		stored, q []api.Field
		want      bool
	}{
		{"", of("A", "1"), of("A", "2"), true},
		{"*", nil, nil, false},
		{"A", of("a", "1"), of("A", "1"), true},
		{"A", of("a", "1"), of("A", "2"), false},
		{"Accept", of("Accept", "a,  b"), of("Accept", "a, b"), true},
		{"Accept", of("Accept", "a,b"), of("Accept", "a, b"), false},
		{"Accept", of("Accept", "a", "Accept", "b"), of("Accept", "a, b"), true},
		{"A", nil, nil, true},
		{"A", of("A", ""), nil, false},
		{"A", nil, of("A", ""), false},
		{"A, B", of("A", "1", "B", "2"), of("B", "2", "A", "1", "C", "3"), true},
		{"A, B", of("A", "1", "B", "2"), of("B", "3", "A", "1"), false},
		{"A", of("A", "x"), of("A", "X"), false},
	} {
		if got := Match(varying(c.vary), c.stored, c.q); got != c.want {
			t.Errorf("%d: %v", i, got)
		}
	}
}

func TestKeptFieldsMatch(t *testing.T) { // P15.3
	r := varying("A, b, c")
	for _, q := range [][]api.Field{nil, of("A", "  x  ", "B", "\t", "a", "y"), of("c", "1", "C", "", "b", " ,")} {
		if k := Keep(r, q); !Match(r, k, q) || !Match(r, k, k) {
			t.Error(q)
		}
	}
}
