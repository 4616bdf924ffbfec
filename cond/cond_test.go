package cond

import (
	"reflect"
	"slices"
	"strings"
	"testing"

	"ambry/api"
	"ambry/date"
)

// of answers fields of names and values.
func of(l ...string) []api.Field {
	var f []api.Field
	for i := 0; i < len(l); i += 2 {
		f = append(f, api.Field{Name: l[i], Value: l[i+1]})
	}
	return f
}

func TestTags(t *testing.T) { // P16.1
	good := []string{`"a"`, `W/"a"`, `""`, `W/""`, "\"!\x80\xff#~\\\"", `"W/"`}
	bad := []string{"", `"`, "a", `"a`, `a"`, `w/"a"`, `W/a`, "W/", `W/W/"a"`, `"a"b"`, `"a b"`, "\"a\tb\"", "\"\x7f\"", "\"\x00\"", ` "a"`, `"a" `, "*"}
	if got := Tags(append(slices.Clone(bad), good...)); !slices.Equal(got, good) {
		t.Errorf("%q", got)
	}
	if Tags(bad) != nil || Tags(nil) != nil {
		t.Error("none")
	}
	for c := range 256 {
		want := c == 33 || c >= 35 && c <= 126 || c > 127
		if got := len(Tags([]string{"\"" + string([]byte{byte(c)}) + "\""})) == 1; got != want {
			t.Error(c)
		}
	}
}

func TestWeakStrong(t *testing.T) { // P16.1
	for _, c := range []struct {
		a, b         string
		weak, strong bool
	}{
		{`"a"`, `"a"`, true, true}, {`W/"a"`, `"a"`, true, false}, {`W/"a"`, `W/"a"`, true, false}, {`"a"`, `"b"`, false, false},
		{`"a"`, `"A"`, false, false}, {`W/"a"`, `W/"b"`, false, false},
	} {
		if Weak(c.a, c.b) != c.weak || Weak(c.b, c.a) != c.weak || Strong(c.a, c.b) != c.strong || Strong(c.b, c.a) != c.strong {
			t.Error(c)
		}
	}
}

func TestMatches(t *testing.T) { // P16.2, and the example
	d := date.Text
	for i, c := range []struct {
		status int
		q, r   []api.Field
		want   bool
	}{
		{200, of("If-None-Match", `"a"`), of("ETag", `W/"a"`), true},
		{200, of("if-none-match", `"x", W/"a"`), of("etag", `"a"`), true},
		{200, of("If-None-Match", `"x"`, "If-None-Match", `"a"`), of("ETag", `"a"`), true},
		{200, of("If-None-Match", `"b"`), of("ETag", `"a"`), false},
		{404, of("If-None-Match", `"a"`), of("ETag", `"a"`), false},
		{200, of("If-None-Match", `*`), nil, true},
		{200, of("If-None-Match", `"b", *`), of("ETag", `"a"`), true},
		{206, of("If-None-Match", `*`), nil, false},
		{200, of("If-None-Match", `"*"`), of("ETag", `"a"`), false},
		{200, of("If-None-Match", `a`), of("ETag", `a`), false},
		{200, of("If-None-Match", `""`), nil, false},
		{200, of("If-None-Match", ""), of("Last-Modified", d(5)), false},
		{200, of("If-None-Match", `"b"`, "If-Modified-Since", d(10)), of("ETag", `"a"`, "Last-Modified", d(5)), false},
		{200, of("If-Modified-Since", d(10)), of("Last-Modified", d(10)), true},
		{200, of("If-Modified-Since", d(10)), of("Last-Modified", d(9)), true},
		{200, of("If-Modified-Since", d(10)), of("Last-Modified", d(11)), false},
		{200, of("If-Modified-Since", d(10)), nil, false},
		{200, of("If-Modified-Since", "x"), of("Last-Modified", d(5)), false},
		{200, of("If-Modified-Since", d(10)), of("Last-Modified", "x"), false},
		{200, nil, of("ETag", `"a"`, "Last-Modified", d(5)), false},
		{203, of("If-Modified-Since", d(10)), of("Last-Modified", d(5)), false},
	} {
		if got := Matches(c.q, api.Response{Status: c.status, Fields: c.r}); got != c.want {
			t.Errorf("%d: %v", i, got)
		}
	}
}

func TestAsk(t *testing.T) { // P16.3
	d := date.Text(5)
	q := api.Request{Method: "GET", Target: "/t", Body: []byte("b"),
		Fields: of("If-None-Match", "own", "A", "b", "if-modified-since", "own", "Host", "h")}
	for i, c := range []struct {
		r, want []api.Field
		any     bool
	}{
		{of("ETag", `W/"a"`, "Last-Modified", d), of("A", "b", "Host", "h", "If-None-Match", `W/"a"`, "If-Modified-Since", d), true},
		{of("ETag", `"a"`), of("A", "b", "Host", "h", "If-None-Match", `"a"`), true},
		{of("Last-Modified", d), of("A", "b", "Host", "h", "If-Modified-Since", d), true},
		{of("Last-Modified", "x", "ETag", "x"), of("A", "b", "Host", "h"), false},
		{nil, of("A", "b", "Host", "h"), false},
	} {
		got, any := Ask(q, api.Response{Fields: c.r})
		if any != c.any || !slices.Equal(got.Fields, c.want) || got.Method != "GET" || got.Target != "/t" || string(got.Body) != "b" {
			t.Errorf("%d: %+v %v", i, got, any)
		}
		got.Body[0], got.Fields[0].Name = 'x', "x"
		if string(q.Body) != "b" || q.Fields[1].Name != "A" {
			t.Fatal("shared")
		}
	}
}

func TestMerge(t *testing.T) { // P16.4, P16.5
	r := api.Response{Status: 200, Reason: "OK", Body: []byte("body"),
		Fields: of("Date", "old", "A", "1", "Content-Type", "t", "B", "2", "a", "3", "Connection", "own", "Content-Length", "4")}
	n := api.Response{Status: 304, Reason: "No", Body: []byte("other"),
		Fields: of("DATE", "new", "a", "4", "Content-Type", "n", "Content-Length", "0", "content-encoding", "n", "Content-Range", "n",
			"Transfer-Encoding", "n", "Connection", "X", "X", "n", "Keep-Alive", "n", "C", "5", "A", "6")}
	got := Merge(r, n)
	want := api.Response{Status: 200, Reason: "OK", Body: []byte("body"),
		Fields: of("Content-Type", "t", "B", "2", "Connection", "own", "Content-Length", "4", "DATE", "new", "a", "4", "C", "5", "A", "6")}
	if !reflect.DeepEqual(got, want) {
		t.Errorf("%+v", got)
	}
	got.Body[0] = 'x'
	if string(r.Body) != "body" || !reflect.DeepEqual(Merge(r, api.Response{}), r) {
		t.Error("merged with nothing")
	}
	if strings.Contains(Merge(r, n).Fields[4].Value, "old") {
		t.Error("as old as it was")
	}
}
