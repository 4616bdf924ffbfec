package flow

import (
	"strings"
	"testing"

	"ambry/api"
	"ambry/date"
)

// of answers fields of names and values.
func of(l ...string) []api.Field {
	var f []api.Field
	for i := 0; i < len(l); i += 2 {
		f = append(f, api.Field{Name: l[i], Value: l[i+1]})
	}
	return f
}

func is(t *testing.T, what string, got []byte, want string) {
	t.Helper()
	if string(got) != want {
		t.Errorf("%s: %q", what, got)
	}
}

func TestAsked(t *testing.T) { // P20.1
	q := api.Request{Method: "GET", Target: "/t", Fields: of("Host", "h", "Connection", "close, X", "X", "1", "If-None-Match", `"own"`, "TE", "x")}
	a := api.Alt{R: api.Response{Fields: of("ETag", `"e"`, "Last-Modified", date.Text(0))}}
	is(t, "miss", Asked(q, a, api.UseMiss), "GET /t HTTP/1.1\r\nHost: h\r\nIf-None-Match: \"own\"\r\nVia: 1.1 ambry\r\n\r\n")
	is(t, "check", Asked(q, a, api.UseCheck), "GET /t HTTP/1.1\r\nHost: h\r\nIf-None-Match: \"e\"\r\nIf-Modified-Since: Thu, 01 Jan 1970 00:00:00 GMT\r\nVia: 1.1 ambry\r\n\r\n")
	is(t, "check without validators", Asked(q, api.Alt{}, api.UseCheck), "GET /t HTTP/1.1\r\nHost: h\r\nVia: 1.1 ambry\r\n\r\n")
	p := api.Request{Method: "PUT", Target: "/", Fields: of("via", "1.0 a, 1.1 b", "Host", "h", "Transfer-Encoding", "chunked", "VIA", "c"), Body: []byte("b")}
	is(t, "put", Asked(p, a, api.UseMiss), "PUT / HTTP/1.1\r\nHost: h\r\nVia: 1.0 a, 1.1 b, c, 1.1 ambry\r\nContent-Length: 1\r\n\r\nb")
	if q.Fields[0].Name != "Host" || len(q.Fields) != 5 {
		t.Error("changed what was handed in")
	}
}

func TestAnswer(t *testing.T) { // P20.2
	r := api.Response{Status: 404, Reason: "No", Fields: of("A", "b", "Keep-Alive", "x", "Via", "z", "Connection", "close"), Body: []byte("body")}
	q := api.Request{Method: "GET"}
	is(t, "stays", Answer(q, r), "HTTP/1.1 404 No\r\nA: b\r\nVia: z, 1.1 ambry\r\nContent-Length: 4\r\n\r\nbody")
	q = api.Request{Method: "HEAD", Fields: of("connection", "x, CLOSE")}
	r.Fields = of("Content-Length", "9")
	is(t, "closes", Answer(q, r), "HTTP/1.1 404 No\r\nVia: 1.1 ambry\r\nConnection: close\r\nContent-Length: 9\r\n\r\n")
}

func TestCloses(t *testing.T) { // P20.2
	for v, want := range map[string]bool{"close": true, "Close , x": true, "keep-alive": false, "": false, "closed": false, "\"close\"": false} {
		if Closes(api.Request{Fields: of("Connection", v)}) != want {
			t.Error(v)
		}
	}
	if Closes(api.Request{}) || !Closes(api.Request{Fields: of("Connection", "x", "Connection", "close")}) {
		t.Error("closes")
	}
}

func TestCached(t *testing.T) { // P20.3, P20.6, and the example
	a := api.Alt{T: api.Times{Asked: 10, Came: 10}, R: api.Response{Status: 200, Reason: "OK", Body: []byte("body"),
		Fields: of("age", "5", "ETag", `"e"`, "Content-Type", "t", "Vary", "A", "Via", "o", "cache-control", "c", "Content-Location", "l", "Date", "d", "Expires", "x", "Last-Modified", "m", "Content-Length", "4")}}
	q := api.Request{Method: "GET"}
	is(t, "whole", Cached(q, a, 12), "HTTP/1.1 200 OK\r\nETag: \"e\"\r\nContent-Type: t\r\nVary: A\r\ncache-control: c\r\nContent-Location: l\r\nDate: d\r\nExpires: x\r\nLast-Modified: m\r\nAge: 7\r\nVia: o, 1.1 ambry\r\nContent-Length: 4\r\n\r\nbody")
	q.Fields = of("If-None-Match", `W/"e"`)
	short := "HTTP/1.1 304 Not Modified\r\nETag: \"e\"\r\nVary: A\r\ncache-control: c\r\nContent-Location: l\r\nDate: d\r\nExpires: x\r\nAge: 7\r\nVia: o, 1.1 ambry\r\n"
	is(t, "304", Cached(q, a, 12), short+"\r\n")
	q.Fields = of("If-None-Match", `"e"`, "Connection", "close")
	is(t, "304, and closes", Cached(q, a, 12), short+"Connection: close\r\n\r\n")
	q.Fields = nil
	if got := string(Cached(q, a, 99)); !strings.Contains(got, "\r\nAge: 94\r\n") {
		t.Error(got)
	}
	a.R.Status = 404
	if got := string(Cached(q, a, 12)); got[:12] != "HTTP/1.1 404" {
		t.Error("of another status", got)
	}
	is(t, "age 0", Cached(api.Request{}, api.Alt{R: api.Response{Status: 200}}, 0), "HTTP/1.1 200 \r\nAge: 0\r\nVia: 1.1 ambry\r\nContent-Length: 0\r\n\r\n")
}

func TestError(t *testing.T) { // P20.4
	for status, reason := range map[int]string{400: "Bad Request", 502: "Bad Gateway", 504: "Gateway Timeout", 403: "Error", 405: "Error", 500: "Error"} {
		line := "HTTP/1.1 " + string([]byte{byte('0' + status/100), byte('0' + status/10%10), byte('0' + status%10)}) + " " + reason + "\r\n"
		is(t, "goes on", Error(status, false), line+"Content-Length: 0\r\n\r\n")
		is(t, "closes", Error(status, true), line+"Connection: close\r\nContent-Length: 0\r\n\r\n")
	}
}

func TestBegin(t *testing.T) { // P20.5
	q := api.Request{Method: "GET", Target: "/", Fields: of("Host", "h", "Connection", "close")}
	a := api.Alt{R: api.Response{Status: 200, Fields: of("ETag", `"e"`)}}
	for _, c := range []struct {
		use, do int
		want    []byte
	}{
		{api.UseServe, api.DoReply, Cached(q, a, 5)},
		{api.UseNever, api.DoReply, Error(504, true)},
		{api.UseMiss, api.DoAsk, Asked(q, a, api.UseMiss)},
		{api.UseCheck, api.DoAsk, Asked(q, a, api.UseCheck)},
		{77, api.DoAsk, Asked(q, a, api.UseMiss)},
	} {
		do, b := Begin(q, a, c.use, 5)
		if do != c.do {
			t.Error(c.use, do)
		}
		is(t, "begin", b, string(c.want))
	}
	if _, b := Begin(api.Request{}, a, api.UseNever, 0); string(b) != string(Error(504, false)) {
		t.Error("closes")
	}
}
