package http

import (
	"bytes"
	"math"
	"math/rand"
	"reflect"
	"slices"
	"strings"
	"testing"

	"ambry/api"
)

func field(name, value string) api.Field { return api.Field{Name: name, Value: value} }

func TestRequest(t *testing.T) { // P12.2, and the example
	for _, c := range []struct {
		in   string
		want api.Request
	}{
		{"GET / HTTP/1.1\r\nHost: h\r\n\r\n", api.Request{Method: "GET", Target: "/", Fields: []api.Field{field("Host", "h")}}},
		{"p~T /a?b~ HTTP/1.1\r\nHOST:\r\ncontent-length: 3\r\nA: b\r\n\r\nabc",
			api.Request{Method: "p~T", Target: "/a?b~", Fields: []api.Field{field("HOST", ""), field("content-length", "3"), field("A", "b")}, Body: []byte("abc")}},
		{"POST / HTTP/1.1\r\nHost: h\r\nTransfer-Encoding: CHUNKED\r\n\r\n3\r\nabc\r\n0\r\nT: v\r\n\r\n",
			api.Request{Method: "POST", Target: "/", Fields: []api.Field{field("Host", "h"), field("Transfer-Encoding", "CHUNKED")}, Body: []byte("abc")}},
		{"GET / HTTP/1.1\r\nHost: h\r\nContent-Length: 2, 2\r\nContent-Length: 2\r\n\r\nab",
			api.Request{Method: "GET", Target: "/", Fields: []api.Field{field("Host", "h"), field("Content-Length", "2, 2"), field("Content-Length", "2")}, Body: []byte("ab")}},
		{"GET /!~ HTTP/1.1\r\nHost: h\r\n\r\n", api.Request{Method: "GET", Target: "/!~", Fields: []api.Field{field("Host", "h")}}},
		{"GET / HTTP/1.1\r\nHost: h\r\nContent-Length: ,\r\n\r\n", api.Request{Method: "GET", Target: "/", Fields: []api.Field{field("Host", "h"), field("Content-Length", ",")}}},
		{"GET / HTTP/1.1\r\nHost: h\r\nContent-Length: 000000000000000001\r\n\r\na",
			api.Request{Method: "GET", Target: "/", Fields: []api.Field{field("Host", "h"), field("Content-Length", "000000000000000001")}, Body: []byte("a")}},
	} {
		r, n, e := Request([]byte(c.in + "GET"))
		if e != api.OK || n != len(c.in) || r.Method != c.want.Method || r.Target != c.want.Target || !slices.Equal(r.Fields, c.want.Fields) || !bytes.Equal(r.Body, c.want.Body) {
			t.Errorf("%q: %+v %d %v", c.in, r, n, e)
		}
		for i := range c.in {
			if r, n, e := Request([]byte(c.in[:i])); e != api.ErrShort || n != 0 || !reflect.DeepEqual(r, api.Request{}) {
				t.Errorf("%q: %v", c.in[:i], e)
			}
		}
	}
}

const host = "Host: h\r\n"

func TestRequestRefuses(t *testing.T) { // P12.1, P12.2
	for in, want := range map[string]api.Errno{
		"GET /\r\n\r\n":                                                          api.ErrLine,
		"\r\n\r\n":                                                               api.ErrLine,
		"GET / HTTP/1.0\r\n" + host + "\r\n":                                     api.ErrLine,
		"GET / http/1.1\r\n" + host + "\r\n":                                     api.ErrLine,
		"GET  / HTTP/1.1\r\n" + host + "\r\n":                                    api.ErrLine,
		"GET / HTTP/1.1 \r\n" + host + "\r\n":                                    api.ErrLine,
		" GET / HTTP/1.1\r\n" + host + "\r\n":                                    api.ErrLine,
		"G(T / HTTP/1.1\r\n" + host + "\r\n":                                     api.ErrLine,
		" / HTTP/1.1\r\n" + host + "\r\n":                                        api.ErrLine,
		"GET x HTTP/1.1\r\n" + host + "\r\n":                                     api.ErrLine,
		"GET  HTTP/1.1\r\n" + host + "\r\n":                                      api.ErrLine,
		"OPTIONS * HTTP/1.1\r\n" + host + "\r\n":                                 api.ErrLine,
		"GET /\x7f HTTP/1.1\r\n" + host + "\r\n":                                 api.ErrLine,
		"GET /\xc3 HTTP/1.1\r\n" + host + "\r\n":                                 api.ErrLine,
		"GET /\t HTTP/1.1\r\n" + host + "\r\n":                                   api.ErrLine,
		"GET x HTTP/1.1\r\nwrong\r\n\r\n":                                        api.ErrLine, // the first line is asked first
		"GET / HTTP/1.1\r\n\r\n":                                                 api.ErrHead,
		"GET / HTTP/1.1\r\n" + host + host + "\r\n":                              api.ErrHead,
		"GET / HTTP/1.1\r\n" + host + "wrong\r\n\r\n":                            api.ErrHead,
		"GET / HTTP/1.1\r\n" + host + "a: b\nc: d\r\n\r\n":                       api.ErrHead,
		"GET / HTTP/1.1\r\n" + host + "a: b\rc: d\r\n\r\n":                       api.ErrHead,
		"GET / HTTP/1.1\n\r\n\r\n":                                               api.ErrHead,
		"\rGET / HTTP/1.1\r\n" + host + "\r\n":                                   api.ErrHead,
		"GET / HTTP/1.1\r\n" + host + "a: b\r\r\n\r\n":                           api.ErrHead,
		"GET / HTTP/1.1\r\n" + strings.Repeat("a: b\r\n", 101) + "\r\n":          api.ErrMany, // and no Host
		"GET / HTTP/1.1\r\n" + host + strings.Repeat("wrong\r\n", 100) + "\r\n":  api.ErrMany,
		"GET / HTTP/1.1\r\n" + host + "Transfer-Encoding: gzip\r\n\r\n":          api.ErrFrame,
		"GET / HTTP/1.1\r\n" + host + "Transfer-Encoding: gzip, chunked\r\n\r\n": api.ErrFrame,
		"GET / HTTP/1.1\r\n" + host + "Transfer-Encoding:\r\n\r\n":               api.ErrFrame,
		"GET / HTTP/1.1\r\n" + host + "Transfer-Encoding: chunked\r\nTransfer-Encoding: chunked\r\n\r\n": api.ErrFrame,
		"GET / HTTP/1.1\r\n" + host + "Transfer-Encoding: chunked\r\nContent-Length: 5\r\n\r\n0\r\n\r\n": api.ErrFrame,
		"GET / HTTP/1.1\r\n" + host + "Transfer-Encoding: chunked\r\n\r\nx\r\n":                          api.ErrFrame,
		"GET / HTTP/1.1\r\n" + host + "Transfer-Encoding: chunked\r\n\r\n10001\r\n":                      api.ErrLong,
		"GET / HTTP/1.1\r\n" + host + "Content-Length: 1, 2\r\n\r\nab":                                   api.ErrFrame,
		"GET / HTTP/1.1\r\n" + host + "Content-Length: 1\r\nContent-Length: 01\r\n\r\nab":                api.ErrFrame,
		"GET / HTTP/1.1\r\n" + host + "Content-Length: +1\r\n\r\nab":                                     api.ErrFrame,
		"GET / HTTP/1.1\r\n" + host + "Content-Length: -1\r\n\r\nab":                                     api.ErrFrame,
		"GET / HTTP/1.1\r\n" + host + "Content-Length: 1a\r\n\r\nab":                                     api.ErrFrame,
		"GET / HTTP/1.1\r\n" + host + "Content-Length: 0000000000000000001\r\n\r\nab":                    api.ErrFrame,
		"GET / HTTP/1.1\r\n" + host + "Content-Length: 65537\r\n\r\n":                                    api.ErrLong,
		"GET / HTTP/1.1\r\n" + host + "Content-Length: 65536\r\n\r\n":                                    api.ErrShort,
		"GET / HTTP/1.1\r\n" + host + "Content-Length: 999999999999999999\r\n\r\n":                       api.ErrLong,
		"GET / HTTP/1.1\r\n" + host + "Content-Length: 3\r\n\r\nab":                                      api.ErrShort,
	} {
		if r, n, e := Request([]byte(in)); e != want || n != 0 || !reflect.DeepEqual(r, api.Request{}) {
			t.Errorf("%q: %v", in, e)
		}
	}
}

func TestHeadsLength(t *testing.T) { // P12.1
	sized := func(n int) string {
		first := "GET / HTTP/1.1\r\n" + host + "A: "
		return first + strings.Repeat("x", n-len(first)-4) + "\r\n\r\n"
	}
	if _, n, e := Request([]byte(sized(8192))); e != api.OK || n != 8192 {
		t.Error("8192", n, e)
	}
	for in, want := range map[string]api.Errno{
		sized(8193):                            api.ErrLong,
		sized(8192)[:8191]:                     api.ErrShort,
		strings.Repeat("x", 8191):              api.ErrShort,
		strings.Repeat("x", 8192):              api.ErrLong,
		"\r\n\r\n" + strings.Repeat("x", 9000): api.ErrLine,
		strings.Repeat("x", 9000) + "\r\n\r\n": api.ErrLong,
	} {
		if _, _, e := Request([]byte(in)); e != want {
			t.Errorf("%d bytes: %v", len(in), e)
		}
		if _, e := Response([]byte(in), "GET"); e != want {
			t.Errorf("%d bytes: %v", len(in), e)
		}
	}
	many := "GET / HTTP/1.1\r\n" + host + strings.Repeat("a: b\r\n", 99) + "\r\n"
	if r, _, e := Request([]byte(many)); e != api.OK || len(r.Fields) != 100 {
		t.Error("100 fields", e)
	}
}

func TestResponse(t *testing.T) { // P12.3
	for _, c := range []struct {
		in, method string
		status     int
		reason     string
		body       string
	}{
		{"HTTP/1.1 200 OK\r\n\r\nall of it", "GET", 200, "OK", "all of it"},
		{"HTTP/1.1 599 \t not\xff found \r\n\r\n", "GET", 599, "\t not\xff found ", ""},
		{"HTTP/1.1 200\r\n\r\nx", "GET", 200, "", "x"},
		{"HTTP/1.1 200 \r\n\r\nx", "", 200, "", "x"},
		{"HTTP/1.1 404 No\r\nContent-Length: 2\r\n\r\nab and more", "GET", 404, "No", "ab"},
		{"HTTP/1.1 200 OK\r\ntransfer-encoding: chunked\r\n\r\n1\r\na\r\n0\r\n\r\nmore", "GET", 200, "OK", "a"},
		{"HTTP/1.1 200 OK\r\nContent-Length:\r\n\r\nmore", "GET", 200, "OK", ""},
		{"HTTP/1.1 200 OK\r\nContent-Length: x\r\n\r\nmore", "HEAD", 200, "OK", ""},
		{"HTTP/1.1 204 No\r\nContent-Length: 5\r\n\r\nmo", "GET", 204, "No", ""},
		{"HTTP/1.1 304 No\r\nTransfer-Encoding: x\r\n\r\nmore", "GET", 304, "No", ""},
	} {
		r, e := Response([]byte(c.in), c.method)
		if e != api.OK || r.Status != c.status || r.Reason != c.reason || string(r.Body) != c.body {
			t.Errorf("%q: %+v %v", c.in, r, e)
		}
	}
	full := "HTTP/1.1 200 OK\r\n\r\n" + strings.Repeat("x", api.MaxBody)
	if r, e := Response([]byte(full), "GET"); e != api.OK || len(r.Body) != api.MaxBody {
		t.Error("full", e)
	}
	for in, want := range map[string]api.Errno{
		full + "x":                                           api.ErrLong,
		"HTTP/1.1 200 OK\r\n":                                api.ErrShort,
		"":                                                   api.ErrShort,
		"HTTP/1.0 200 OK\r\n\r\n":                            api.ErrLine,
		"HTTP/1.1  200 OK\r\n\r\n":                           api.ErrLine,
		"HTTP/1.1 20 OK\r\n\r\n":                             api.ErrLine,
		"HTTP/1.1 2000 OK\r\n\r\n":                           api.ErrLine,
		"HTTP/1.1 2x0 OK\r\n\r\n":                            api.ErrLine,
		"HTTP/1.1 199 OK\r\n\r\n":                            api.ErrLine,
		"HTTP/1.1 100 Go on\r\n\r\n":                         api.ErrLine,
		"HTTP/1.1 099 OK\r\n\r\n":                            api.ErrLine,
		"HTTP/1.1 600 OK\r\n\r\n":                            api.ErrLine,
		"HTTP/1.1 200OK\r\n\r\n":                             api.ErrLine,
		"HTTP/1.1 200 O\x7f\r\n\r\n":                         api.ErrLine,
		"HTTP/1.1 200 O\x00\r\n\r\n":                         api.ErrLine,
		"HTTP/1.1\r\n\r\n":                                   api.ErrLine,
		"HTTP/1.1 200 OK\r\n: x\r\n\r\n":                     api.ErrHead,
		"HTTP/1.1 200 OK\r\na: x\ny\r\n\r\n":                 api.ErrHead,
		"HTTP/1.1 200 OK\r\nContent-Length: 3\r\n\r\nab":     api.ErrShort,
		"HTTP/1.1 200 OK\r\nContent-Length: 70000\r\n\r\nab": api.ErrLong,
		"HTTP/1.1 200 OK\r\nContent-Length: x\r\n\r\nab":     api.ErrFrame,
		"HTTP/1.1 200 OK\r\nTransfer-Encoding: chunked\r\n\r\n3\r\na":                         api.ErrShort,
		"HTTP/1.1 200 OK\r\nTransfer-Encoding: br\r\n\r\n3\r\na":                              api.ErrFrame,
		"HTTP/1.1 200 OK\r\n" + strings.Repeat("a: b\r\n", 101) + "\r\n":                      api.ErrMany,
		"HTTP/1.1 200 OK\r\nTransfer-Encoding: chunked\r\nContent-Length: 0\r\n\r\n0\r\n\r\n": api.ErrFrame,
	} {
		if r, e := Response([]byte(in), "GET"); e != want || !reflect.DeepEqual(r, api.Response{}) {
			t.Errorf("%.60q: %v", in, e)
		}
	}
}

func TestBodiless(t *testing.T) { // P12.4
	for _, c := range []struct {
		status int
		method string
		want   bool
	}{
		{200, "GET", false}, {200, "HEAD", true}, {200, "head", false}, {204, "GET", true}, {304, "POST", true}, {199, "GET", true},
		{0, "", true}, {-1, "", true}, {205, "", false}, {404, "HEAD", true}, {math.MaxInt, "", false},
	} {
		if Bodiless(c.status, c.method) != c.want {
			t.Error(c)
		}
	}
}

func TestRequestBytes(t *testing.T) { // P12.4
	l := []api.Field{field("Host", "h"), field("content-LENGTH", "9"), field("Transfer-Encoding", "chunked"), field("A", "b")}
	for _, c := range []struct{ method, body, want string }{
		{"GET", "", "GET /x HTTP/1.1\r\nHost: h\r\nA: b\r\n\r\n"},
		{"GET", "abc", "GET /x HTTP/1.1\r\nHost: h\r\nA: b\r\nContent-Length: 3\r\n\r\nabc"},
		{"GET", "a", "GET /x HTTP/1.1\r\nHost: h\r\nA: b\r\nContent-Length: 1\r\n\r\na"},
		{"POST", "", "POST /x HTTP/1.1\r\nHost: h\r\nA: b\r\nContent-Length: 0\r\n\r\n"},
		{"PUT", "a", "PUT /x HTTP/1.1\r\nHost: h\r\nA: b\r\nContent-Length: 1\r\n\r\na"},
		{"PATCH", "", "PATCH /x HTTP/1.1\r\nHost: h\r\nA: b\r\nContent-Length: 0\r\n\r\n"},
		{"put", "", "put /x HTTP/1.1\r\nHost: h\r\nA: b\r\n\r\n"},
	} {
		got := RequestBytes(api.Request{Method: c.method, Target: "/x", Fields: l, Body: []byte(c.body)})
		if string(got) != c.want {
			t.Errorf("%q", got)
		}
	}
}

func TestResponseBytes(t *testing.T) { // P12.4
	l := []api.Field{field("A", "b"), field("content-length", "77"), field("TRANSFER-encoding", "x")}
	for _, c := range []struct {
		status       int
		method, want string
	}{
		{200, "GET", "HTTP/1.1 200 OK\r\nA: b\r\nContent-Length: 4\r\n\r\nbody"},
		{200, "HEAD", "HTTP/1.1 200 OK\r\nA: b\r\nContent-Length: 77\r\n\r\n"},
		{204, "GET", "HTTP/1.1 204 OK\r\nA: b\r\n\r\n"},
		{204, "HEAD", "HTTP/1.1 204 OK\r\nA: b\r\n\r\n"},
		{304, "GET", "HTTP/1.1 304 OK\r\nA: b\r\nContent-Length: 77\r\n\r\n"},
		{150, "GET", "HTTP/1.1 150 OK\r\nA: b\r\n\r\n"},
		{7, "GET", "HTTP/1.1 007 OK\r\nA: b\r\n\r\n"},
		{-7, "GET", "HTTP/1.1 000 OK\r\nA: b\r\n\r\n"},
		{4321, "GET", "HTTP/1.1 321 OK\r\nA: b\r\nContent-Length: 4\r\n\r\nbody"},
	} {
		got := ResponseBytes(api.Response{Status: c.status, Reason: "OK", Fields: l, Body: []byte("body")}, c.method)
		if string(got) != c.want {
			t.Errorf("%d %s: %q", c.status, c.method, got)
		}
	}
	got := ResponseBytes(api.Response{Status: 200}, "HEAD") // it has none
	if string(got) != "HTTP/1.1 200 \r\n\r\n" {
		t.Errorf("%q", got)
	}
}

func TestReadBack(t *testing.T) { // P12.5
	r := rand.New(rand.NewSource(12))
	for range 300 {
		body := make([]byte, r.Intn(300))
		r.Read(body)
		q := api.Request{Method: "PUT", Target: "/a?b", Fields: []api.Field{field("Host", "h"), field("X", "y z")}, Body: body}
		b := RequestBytes(q)
		got, n, e := Request(append(b, "next"...))
		got.Fields = slices.DeleteFunc(got.Fields, func(f api.Field) bool { return f.Name == "Content-Length" })
		if e != api.OK || n != len(b) || !reflect.DeepEqual(got, q) {
			t.Fatalf("%+v %v", got, e)
		}
		p := api.Response{Status: 200 + r.Intn(400), Reason: "What", Fields: []api.Field{field("X", "y z")}, Body: body}
		back, e := Response(ResponseBytes(p, "GET"), "GET")
		back.Fields = slices.DeleteFunc(back.Fields, func(f api.Field) bool { return f.Name == "Content-Length" })
		if Bodiless(p.Status, "GET") {
			p.Body, back.Body = nil, back.Body[:0:0]
			p.Body = p.Body[:0:0]
		}
		if e != api.OK || back.Status != p.Status || back.Reason != p.Reason || !slices.Equal(back.Fields, p.Fields) || !bytes.Equal(back.Body, p.Body) {
			t.Fatalf("%+v %v", back, e)
		}
	}
}

func TestAnswersAreNewMemory(t *testing.T) {
	in := []byte("HTTP/1.1 200 OK\r\nContent-Length: 2\r\n\r\nab")
	r, _ := Response(in, "GET")
	q := []byte("GET / HTTP/1.1\r\nHost: h\r\nContent-Length: 2\r\n\r\nab")
	p, _, _ := Request(q)
	clear(in)
	clear(q)
	if string(r.Body) != "ab" || string(p.Body) != "ab" {
		t.Error("shared")
	}
}

func FuzzRequest(f *testing.F) { // P50.9: any bytes
	f.Add([]byte("GET / HTTP/1.1\r\nHost: h\r\n\r\n"))
	f.Add([]byte("POST / HTTP/1.1\r\nHost: h\r\nTransfer-Encoding: chunked\r\n\r\n3;x\r\nabc\r\n0\r\nT: v\r\n\r\n"))
	f.Fuzz(func(t *testing.T, b []byte) {
		if _, n, e := Request(b); (e == api.OK) != (n > 0) || n > len(b) {
			t.Error(n, e)
		}
		Response(b, "GET")
	})
}
