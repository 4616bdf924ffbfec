package part

import (
	"math"
	"math/rand"
	"reflect"
	"slices"
	"strconv"
	"strings"
	"testing"

	"ambry/api"
	"ambry/date"
	"ambry/head"
)

// spans answers spans of numbers.
func spans(n ...int) []api.Span {
	var l []api.Span
	for i := 0; i < len(n); i += 2 {
		l = append(l, api.Span{From: n[i], End: n[i+1]})
	}
	return l
}

// of answers fields of names and values.
func of(l ...string) []api.Field {
	var f []api.Field
	for i := 0; i < len(l); i += 2 {
		f = append(f, api.Field{Name: l[i], Value: l[i+1]})
	}
	return f
}

func TestParse(t *testing.T) { // P25.1
	for _, c := range []struct {
		value string
		size  int
		want  []api.Span
	}{
		{"bytes=0-1", 6, spans(0, 2)}, {"BYTES=2-2", 6, spans(2, 3)}, {"bytes=4-99", 6, spans(4, 6)}, {"bytes=5-5", 6, spans(5, 6)}, {"bytes=6-7", 6, nil},
		{"bytes=2-", 6, spans(2, 6)}, {"bytes=6-", 6, nil}, {"bytes=-2", 6, spans(4, 6)}, {"bytes=-9", 6, spans(0, 6)}, {"bytes=-0", 6, nil}, {"bytes=-5", 0, nil}, {"bytes=0-", 0, nil}, {"bytes=0-0", -5, nil},
		{"bytes= 3-4 ,,\t0-1\t, ", 6, spans(3, 5, 0, 2)}, {"bytes=0-1,9-9,1-", 6, spans(0, 2, 1, 6)}, {"bytes=007-008", 9, spans(7, 9)},
		{"bytes=0-999999999999999999", 6, spans(0, 6)}, {"bytes=-999999999999999999", 6, spans(0, 6)}, {"bytes=999999999999999999-", math.MaxInt, spans(999999999999999999, math.MaxInt)},
		{"bytes=" + strings.Repeat("0-0,", 10), 6, slices.Repeat(spans(0, 1), 10)},
	} {
		if got, e := Parse(c.value, c.size); e != api.OK || !slices.Equal(got, c.want) {
			t.Errorf("%s of %d: %v %v", c.value, c.size, got, e)
		}
	}
	for _, v := range []string{
		"", "bytes", "bytes=", "bytes=,", "bytes= , ,", "bytes=-", "bytes=a-b", "bytes=1", "bytes=2-1", "bytes=0-1,x", "bytes=1-2-3", "bytes=--1", "bytes=1--2", "bytes=+1-2",
		"bytes=1 -2", "bytes=1- 2", "bytes =1-2", " bytes=1-2", "lines=1-2", "bytes:1-2", "bytes=0-1;2-3", "bytes=0000000000000000000-1", "bytes=-0000000000000000001",
		"bytes=0-1000000000000000000", "bytes=" + strings.Repeat("0-0,", 11), "bytes=" + strings.Repeat("9-9,", 11), "bytes=0-0,\n1-1",
	} {
		if got, e := Parse(v, 6); e != api.ErrSpan || got != nil {
			t.Errorf("%q: %v %v", v, got, e)
		}
	}
}

func TestJoin(t *testing.T) { // P25.2
	for _, c := range [][2][]api.Span{
		{nil, nil}, {spans(3, 5, 0, 2), spans(0, 2, 3, 5)}, {spans(2, 4, 0, 2), spans(0, 4)}, {spans(0, 9, 2, 3), spans(0, 9)}, {spans(5, 5, 6, 2), nil},
		{spans(0, 2, 2, 2, 3, 4), spans(0, 2, 3, 4)}, {spans(1, 3, 1, 2, 1, 5), spans(1, 5)}, {spans(-9, -3, -4, 1, math.MinInt, -9), spans(math.MinInt, 1)},
		{spans(0, 1, 2, 3, 1, 2), spans(0, 3)}, {spans(5, 6, 0, 1, 2, 3), spans(0, 1, 2, 3, 5, 6)},
	} {
		in := slices.Clone(c[0])
		if got := Join(c[0]); !slices.Equal(got, c[1]) || !slices.Equal(in, c[0]) {
			t.Errorf("%v: %v", c[0], got)
		}
	}
}

func TestHolds(t *testing.T) { // P25.3
	d := date.Text
	for i, c := range []struct {
		q, r []api.Field
		want bool
	}{
		{nil, nil, true},
		{of("if-range", `"a"`), of("etag", `"a"`), true}, {of("If-Range", `"a"`), of("ETag", `"b"`), false}, {of("If-Range", `"a"`), of("ETag", `W/"a"`), false},
		{of("If-Range", `W/"a"`), of("ETag", `W/"a"`), false}, {of("If-Range", `"a"`), nil, false}, {of("If-Range", "a"), of("ETag", "a"), false},
		{of("If-Range", d(5)), of("Last-Modified", d(5)), true}, {of("If-Range", d(5)), of("Last-Modified", d(6)), false}, {of("If-Range", d(6)), of("Last-Modified", d(5)), false},
		{of("If-Range", "Thu Jan  1 00:00:05 1970"), of("Last-Modified", d(5)), true}, {of("If-Range", d(5)), nil, false}, {of("If-Range", ""), of("Last-Modified", ""), false},
	} {
		if got := Holds(c.q, api.Response{Fields: c.r}); got != c.want {
			t.Errorf("%d: %v", i, got)
		}
	}
}

func TestApply(t *testing.T) { // P25.4, P25.5, and the example
	r := api.Response{Status: 200, Reason: "OK", Fields: of("A", "b", "content-range", "x", "ETag", `"e"`), Body: []byte("abcdef")}
	ask := func(l ...string) api.Request { return api.Request{Method: "GET", Fields: of(l...)} }
	part := func(s, body string) api.Response {
		return api.Response{Status: 206, Reason: "Partial Content", Fields: of("A", "b", "ETag", `"e"`, "Content-Range", "bytes "+s+"/6"), Body: []byte(body)}
	}
	none := api.Response{Status: 416, Reason: "Range Not Satisfiable", Fields: of("Content-Range", "bytes */6")}
	head1 := ask("Range", "bytes=0-1")
	head1.Method = "HEAD"
	for i, c := range []struct {
		q    api.Request
		want api.Response
	}{
		{ask("Range", "bytes=0-1,2-3"), part("0-3", "abcd")}, {ask("range", "bytes=-1"), part("5-5", "f")}, {ask("Range", "bytes=0-"), part("0-5", "abcdef")},
		{ask("Range", "bytes=4-,9-9"), part("4-5", "ef")}, {ask("Range", "bytes=6-"), none}, {ask("Range", "bytes=-0"), none},
		{ask("Range", "bytes=0-1,3-4"), r}, {ask("Range", "what"), r}, {ask(), r}, {ask("Range", "bytes=0-1", "Range", "bytes=0-1"), r}, {head1, r},
		{ask("Range", "bytes=0-1", "If-Range", `"e"`), part("0-1", "ab")}, {ask("Range", "bytes=0-1", "If-Range", `"f"`), r}, {ask("Range", "bytes=9-", "If-Range", `"f"`), r},
	} {
		got := Apply(c.q, r)
		if !reflect.DeepEqual(got, c.want) {
			t.Errorf("%d: %+v", i, got)
		}
		for i := range got.Body {
			got.Body[i] = 'x'
		}
		got.Fields[0].Name = "x"
		if string(r.Body) != "abcdef" || r.Fields[0].Name != "A" {
			t.Fatal("shared")
		}
	}
	r.Status = 404
	if got := Apply(ask("Range", "bytes=0-1"), r); got.Status != 404 {
		t.Error("of another status")
	}
	if got := Apply(ask("Range", "bytes=0-"), api.Response{Status: 200}); got.Status != 416 || got.Fields[0].Value != "bytes */0" {
		t.Error("of no body", got)
	}
}

func TestAPartIsJustItsBytes(t *testing.T) { // P25.5
	r := rand.New(rand.NewSource(25))
	for range 3000 {
		body := make([]byte, r.Intn(40))
		r.Read(body)
		var l []string
		for range 1 + r.Intn(3) {
			from := r.Intn(45)
			l = append(l, []string{strconv.Itoa(from) + "-", "-" + strconv.Itoa(from), strconv.Itoa(from) + "-" + strconv.Itoa(from+r.Intn(10))}[r.Intn(3)])
		}
		got := Apply(api.Request{Method: "GET", Fields: of("Range", "bytes="+strings.Join(l, ","))}, api.Response{Status: 200, Body: body})
		if got.Status != 206 {
			continue
		}
		v, _ := head.Get(got.Fields, "Content-Range")
		from, rest, _ := strings.Cut(strings.TrimPrefix(v, "bytes "), "-")
		last, size, _ := strings.Cut(rest, "/")
		a, _ := strconv.Atoi(from)
		b, _ := strconv.Atoi(last)
		if size != strconv.Itoa(len(body)) || string(got.Body) != string(body[a:b+1]) {
			t.Fatal(v)
		}
	}
}

func TestStrip(t *testing.T) { // P25.4
	q := api.Request{Method: "GET", Target: "/", Fields: of("range", "x", "A", "b", "IF-RANGE", "y", "Range", "z"), Body: []byte("b")}
	got := Strip(q)
	if !reflect.DeepEqual(got, api.Request{Method: "GET", Target: "/", Fields: of("A", "b"), Body: []byte("b")}) {
		t.Error(got)
	}
	got.Body[0] = 'x'
	if string(q.Body) != "b" || len(q.Fields) != 4 {
		t.Error("shared")
	}
}
