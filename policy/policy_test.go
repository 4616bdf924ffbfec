package policy

import (
	"testing"

	"ambry/api"
	"ambry/sha"
)

// of answers fields of names and values.
func of(l ...string) []api.Field {
	var f []api.Field
	for i := 0; i < len(l); i += 2 {
		f = append(f, api.Field{Name: l[i], Value: l[i+1]})
	}
	return f
}

func TestMay(t *testing.T) { // P17.1, P17.3, and the example
	cc := "Cache-Control"
	for i, c := range []struct {
		method string
		q      []api.Field
		status int
		r      []api.Field
		body   int
		want   bool
	}{
		{"GET", nil, 200, nil, 0, true},
		{"GET", nil, 200, nil, 60000, true},
		{"GET", nil, 200, nil, 60001, false},
		{"HEAD", nil, 200, of(cc, "max-age=5"), 0, false},
		{"get", nil, 200, nil, 0, false},
		{"POST", nil, 200, of(cc, "public, max-age=5"), 0, false},
		{"GET", nil, 199, of(cc, "max-age=5"), 0, false},
		{"GET", nil, -200, of(cc, "max-age=5"), 0, false},
		{"GET", nil, 206, of(cc, "max-age=5"), 0, false},
		{"GET", nil, 304, of(cc, "max-age=5"), 0, false},
		{"GET", nil, 302, nil, 0, false},
		{"GET", nil, 302, of(cc, "max-age=0"), 0, true},
		{"GET", nil, 302, of(cc, "s-maxage=5"), 0, true},
		{"GET", nil, 302, of(cc, "public"), 0, true},
		{"GET", nil, 302, of(cc, "s-maxage=0"), 0, true},
		{"GET", nil, 302, of("Expires", "x"), 0, true},
		{"GET", nil, 302, of(cc, "must-revalidate"), 0, false},
		{"GET", nil, 404, nil, 0, true},
		{"GET", nil, 500, nil, 0, false},
		{"GET", nil, 599, of(cc, "max-age=5"), 0, true},
		{"GET", of(cc, "no-store"), 200, of(cc, "max-age=5"), 0, false},
		{"GET", nil, 200, of(cc, "no-store, max-age=5"), 0, false},
		{"GET", nil, 200, of(cc, "no-store=1, max-age=5"), 0, false},
		{"GET", of(cc, "no-store=1"), 200, of(cc, "max-age=5"), 0, false},
		{"GET", nil, 200, of(cc, "private"), 0, false},
		{"GET", nil, 200, of(cc, "private=\"x\", public"), 0, false},
		{"GET", of(cc, "private"), 200, nil, 0, true},
		{"GET", of(cc, "no-cache"), 200, of(cc, "no-cache"), 0, true},
		{"GET", of("authorization", "x"), 200, of(cc, "max-age=5"), 0, false},
		{"GET", of("Authorization", ""), 200, nil, 0, false},
		{"GET", of("Authorization", "x"), 200, of(cc, "public"), 0, true},
		{"GET", of("Authorization", "x"), 200, of(cc, "must-revalidate"), 0, true},
		{"GET", of("Authorization", "x"), 200, of(cc, "s-maxage=0"), 0, true},
		{"GET", of("Authorization", "x"), 200, of(cc, "proxy-revalidate"), 0, false},
		{"GET", nil, 200, of("Vary", "a, *"), 0, false},
		{"GET", nil, 200, of("Vary", "a"), 0, true},
	} {
		q := api.Request{Method: c.method, Target: "/", Fields: c.q}
		r := api.Response{Status: c.status, Fields: c.r, Body: make([]byte, c.body)}
		if got := May(q, r); got != c.want {
			t.Errorf("%d: %v", i, got)
		}
	}
}

func TestSafe(t *testing.T) { // P17.2
	for m, want := range map[string]bool{"GET": true, "HEAD": true, "OPTIONS": true, "TRACE": true, "POST": false, "PUT": false, "DELETE": false, "get": false, "": false, "CONNECT": false} {
		if Safe(m) != want {
			t.Error(m)
		}
	}
}

func TestKey(t *testing.T) { // P17.2
	q := func(method, target string, l ...string) api.Request {
		return api.Request{Method: method, Target: target, Fields: of(l...)}
	}
	if Key(q("POST", "/A?b", "HOST", "H.Example:80\xc4", "host", "other")) != sha.Key([]string{"GET", "h.example:80\xc4", "/A?b"}) {
		t.Error("key")
	}
	if Key(q("GET", "/")) != sha.Key([]string{"GET", "", "/"}) || Key(q("GET", "/", "Host", "h")) == Key(q("GET", "/", "Host", "i")) {
		t.Error("host")
	}
}
