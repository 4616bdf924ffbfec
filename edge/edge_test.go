package edge

import (
	"math"
	"reflect"
	"slices"
	"strconv"
	"strings"
	"testing"

	"ambry/api"
	"ambry/conf"
	"ambry/disk"
	"ambry/flow"
	"ambry/line"
)

const fresh = "Cache-Control: max-age=60"

func edgeOf(t *testing.T, settings ...string) *Edge {
	t.Helper()
	e, n, errno := New(disk.New(4000, 256), 1<<16, 1000, strings.Join(settings, "\n"))
	if errno != api.OK || n != 0 || e == nil {
		t.Fatal(n, errno)
	}
	return e
}

// get answers the bytes of a GET of host h, with further lines.
func get(target string, lines ...string) string {
	return "GET " + target + " HTTP/1.1\r\nHost: h\r\n" + strings.Join(append(lines, ""), "\r\n") + "\r\n"
}

// reply answers the bytes of a response.
func reply(status int, body string, lines ...string) []byte {
	return []byte("HTTP/1.1 " + strconv.Itoa(status) + " R\r\n" + strings.Join(append(lines, ""), "\r\n") + "\r\n" + body)
}

// ask asks the edge; the request must reach the origin.
func ask(t *testing.T, e *Edge, s string) (int, string) {
	t.Helper()
	n, b := e.Ask([]byte(s))
	if n == 0 {
		t.Errorf("%q: told %q", s, b)
	}
	return n, string(b)
}

// told asks the edge; the request must be told a reply that begins and ends so.
func told(t *testing.T, e *Edge, s, first, last string) string {
	t.Helper()
	n, b := e.Ask([]byte(s))
	return is(t, n, b, first, last)
}

func is(t *testing.T, n int, b []byte, first, last string) string {
	t.Helper()
	if s := string(b); n != 0 || !strings.HasPrefix(s, "HTTP/1.1 "+first) || !strings.HasSuffix(s, "\r\n\r\n"+last) {
		t.Errorf("%d %q, want %q %q", n, s, first, last)
	}
	return string(b)
}

// noted: the last line of the log must be this, behind its date.
func noted(t *testing.T, e *Edge, want string) {
	t.Helper()
	l := e.Log(1)
	if len(l) != 1 || line.Text(l[0])[30:] != want {
		t.Errorf("%+v, want %s", l, want)
	}
}

// timeOf answers the edge's time, as its log tells it.
func timeOf(e *Edge) int64 {
	e.Ask(nil)
	return e.Log(1)[0].Time
}

func TestNew(t *testing.T) { // P31.1
	if e, n, errno := New(disk.New(1, 64), 0, 0, "log 5\nwhat"); errno != api.ErrConf || n != 2 || e != nil {
		t.Error(n, errno)
	}
	if e, n, errno := New(disk.New(1, 64), 0, 0, "log 5"); errno != api.ErrVolForm || n != 0 || e != nil {
		t.Error(n, errno)
	}
	e := edgeOf(t, "deny X * **", "log 7")
	want, _, _ := conf.Parse("deny X * **\nlog 7")
	if !reflect.DeepEqual(e.Conf(), want) || e.Stat() != "hit 0\nmiss 0\ncheck 0\ndeny 0\nerror 0\nconsole 0\nbytes 0\n" || len(e.Log(9)) > 0 || len(e.Waiting()) > 0 {
		t.Error("new")
	}
	e.Conf().Rules[0].Method = "Y"
	if e.Conf().Rules[0].Method != "X" {
		t.Error("shared")
	}
	for now, want := range map[int64]int64{-1: 0, 5: 5, math.MaxInt64: api.MaxTime} {
		if e, _, _ := New(disk.New(100, 128), 0, now, ""); timeOf(e) != want {
			t.Error(now)
		}
	}
	e.Tick(-3)
	e.Tick(4)
	if timeOf(e) != 1004 {
		t.Error(timeOf(e))
	}
	e.Tick(math.MaxInt64)
	if timeOf(e) != api.MaxTime || e.Sync() != api.OK {
		t.Error(timeOf(e))
	}
}

func TestMissThenHit(t *testing.T) { // P31.2 to P31.4, P31.6, P50.6
	e := edgeOf(t)
	n, s := ask(t, e, "GET /a/../%62?x HTTP/1.1\r\nA: b\r\nHOST: H:80\r\nC: d\r\n\r\n")
	if n != 1 || s != "GET /b?x HTTP/1.1\r\nA: b\r\nHOST: h\r\nC: d\r\nVia: 1.1 ambry\r\n\r\n" {
		t.Errorf("%d %q", n, s)
	}
	if !slices.Equal(e.Waiting(), []int{1}) || len(e.Log(9)) != 0 {
		t.Error("waiting")
	}
	if e.Answer(2, reply(200, "x")) != nil || e.Lost(0) != nil || e.Lost(-1) != nil {
		t.Error("what doesn't wait")
	}
	if got := string(e.Answer(1, reply(200, "body", fresh))); got != "HTTP/1.1 200 R\r\nCache-Control: max-age=60\r\nVia: 1.1 ambry\r\nContent-Length: 4\r\n\r\nbody" {
		t.Errorf("%q", got)
	}
	noted(t, e, `miss "GET" "h" "/b?x" 200 4`)
	if e.Answer(1, reply(200, "x")) != nil || e.Lost(1) != nil || len(e.Waiting()) != 0 {
		t.Error("it waits yet")
	}
	e.Tick(3)
	want := "HTTP/1.1 200 R\r\nCache-Control: max-age=60\r\nAge: 3\r\nVia: 1.1 ambry\r\nConnection: close\r\nContent-Length: 4\r\n\r\nbody"
	if _, b := e.Ask([]byte(get("/b?x", "Connection: close"))); string(b) != want {
		t.Errorf("%q", b)
	}
	noted(t, e, `hit "GET" "h" "/b?x" 200 4`)
	e.Tick(99)
	if n, _ := ask(t, e, get("/b?x")); n != 2 {
		t.Error(n)
	}
	if e.Stat() != "hit 1\nmiss 1\ncheck 0\ndeny 0\nerror 0\nconsole 0\nbytes 8\n" || len(e.Log(9)) != 2 {
		t.Error(e.Stat())
	}
}

func TestRequestsThatCantBe(t *testing.T) { // P31.2, P50.5
	e := edgeOf(t, "deny * * /no**", "deny GET other **")
	for _, s := range []string{"", "what\r\n\r\n", get("/") + "x", get("/")[:20], get("/", "Host: i"), get("/") + get("/")} {
		told(t, e, s, "400 Bad Request\r\nConnection: close\r\n", "")
		noted(t, e, `error "" "" "" 400 0`)
	}
	told(t, e, get("/%zz"), "400 Bad Request\r\nContent-Length: 0\r\n", "")
	noted(t, e, `error "GET" "h" "/%zz" 400 0`)
	told(t, e, get("/%zz", "Connection: close"), "400 Bad Request\r\nConnection: close\r\n", "")
	told(t, e, get("/a/../no/x?y"), "403 Error\r\nContent-Length: 0\r\n", "")
	noted(t, e, `deny "GET" "h" "/no/x?y" 403 0`)
	told(t, e, "GET /a HTTP/1.1\r\nHost: OTHER:80\r\nConnection: close\r\n\r\n", "403 Error\r\nConnection: close\r\n", "")
	noted(t, e, `deny "GET" "other" "/a" 403 0`)
	told(t, e, get("/a", "Cache-Control: only-if-cached"), "504 Gateway Timeout\r\n", "")
	noted(t, e, `error "GET" "h" "/a" 504 0`)
	if len(e.Waiting()) != 0 { // P50.11: neither the cache nor the origin is asked
		t.Error("asked")
	}
}

func TestDeniedThoughKept(t *testing.T) { // P50.11
	d := disk.New(4000, 256)
	e, _, _ := New(d, 0, 1000, "")
	n, _ := ask(t, e, get("/no"))
	e.Answer(n, reply(200, "kept", fresh))
	e.Sync()
	e, _, _ = New(d, 0, 1000, "deny * * /no")
	told(t, e, get("/no"), "403 Error\r\n", "")
	told(t, e, get("/n%6f"), "403 Error\r\n", "")
}

func TestOriginsThatCantBeRead(t *testing.T) { // P31.3, P50.5
	e := edgeOf(t)
	for i, b := range [][]byte{nil, []byte("what"), reply(200, "x", "Content-Length: 9"), reply(199, "")} {
		n, _ := ask(t, e, get("/a", "Connection: "+[]string{"x", "close"}[i%2]))
		is(t, 0, e.Answer(n, b), "502 Bad Gateway\r\n"+[]string{"Content", "Connection: close"}[i%2], "")
		noted(t, e, `error "GET" "h" "/a" 502 0`)
	}
	n, _ := ask(t, e, get("/a"))
	is(t, 0, e.Lost(n), "502 Bad Gateway\r\n", "")
	noted(t, e, `error "GET" "h" "/a" 502 0`)
	if e.Stat() != "hit 0\nmiss 0\ncheck 0\ndeny 0\nerror 5\nconsole 0\nbytes 0\n" {
		t.Error(e.Stat())
	}
}

func TestCheck(t *testing.T) { // P31.3
	e := edgeOf(t)
	n, _ := ask(t, e, get("/a"))
	e.Answer(n, reply(200, "body", "Cache-Control: max-age=5", `ETag: "e"`))
	e.Tick(9)
	n, s := ask(t, e, get("/a"))
	if !strings.Contains(s, "If-None-Match: \"e\"\r\n") {
		t.Errorf("%q", s)
	}
	is(t, 0, e.Answer(n, reply(304, "", "Cache-Control: max-age=6")), "200 R\r\nETag: \"e\"\r\nCache-Control: max-age=6\r\nAge: 0\r\n", "body")
	noted(t, e, `check "GET" "h" "/a" 200 4`)
	told(t, e, get("/a", `If-None-Match: "e"`), "304 Not Modified\r\n", "")
	noted(t, e, `hit "GET" "h" "/a" 304 0`)
	e.Tick(9)
	n, _ = ask(t, e, get("/a"))
	is(t, 0, e.Answer(n, reply(200, "new", "Cache-Control: no-store")), "200 R\r\n", "new")
	noted(t, e, `check "GET" "h" "/a" 200 3`)
	n, _ = ask(t, e, get("/a", "Cache-Control: max-stale"))
	is(t, 0, e.Answer(n, reply(304, "")), "304 R\r\n", "")
	noted(t, e, `miss "GET" "h" "/a" 304 0`)
	n, _ = ask(t, e, get("/a"))
	e.Answer(n, reply(200, "body", "Cache-Control: max-age=1"))
	e.Tick(9)
	n, _ = ask(t, e, get("/a"))
	m, _ := ask(t, e, strings.Replace(get("/a"), "GET", "DELETE", 1))
	e.Answer(m, reply(204, ""))
	noted(t, e, `miss "DELETE" "h" "/a" 204 0`)
	is(t, 0, e.Answer(n, reply(304, "")), "502 Bad Gateway\r\n", "")
	noted(t, e, `error "GET" "h" "/a" 502 0`)
}

func TestParts(t *testing.T) { // P31.2, P31.3, P50.12
	e := edgeOf(t)
	n, s := ask(t, e, get("/a", "Range: bytes=0-1", "If-Range: x", "X: y"))
	if strings.Contains(s, "Range") || !strings.Contains(s, "X: y\r\n") {
		t.Errorf("%q", s)
	}
	is(t, 0, e.Answer(n, reply(200, "abcdef", "Cache-Control: max-age=9", `ETag: "e"`)), "200 R\r\n", "abcdef") // If-Range doesn't hold
	noted(t, e, `miss "GET" "h" "/a" 200 6`)
	e.Tick(4)
	told(t, e, get("/a", "Range: bytes=0-1,2-3"), "206 Partial Content\r\nCache-Control: max-age=9\r\nETag: \"e\"\r\nAge: 4\r\nContent-Range: bytes 0-3/6\r\nVia: 1.1 ambry\r\nContent-Length: 4\r\n", "abcd")
	noted(t, e, `hit "GET" "h" "/a" 206 4`)
	told(t, e, get("/a", "Range: bytes=9-"), "416 Range Not Satisfiable\r\nContent-Range: bytes */6\r\nVia: 1.1 ambry\r\n", "")
	told(t, e, get("/a", "Range: what", `If-None-Match: "e"`), "200 R\r\n", "abcdef")
	told(t, e, get("/a"), "200 R\r\n", "abcdef") // the whole is kept
	e.Tick(9)
	n, _ = ask(t, e, get("/a", "Range: bytes=-2"))
	is(t, 0, e.Answer(n, reply(304, "")), "206 Partial Content\r\n", "ef")
	noted(t, e, `check "GET" "h" "/a" 206 2`)
	n, _ = ask(t, e, get("/b", "Range: bytes=1-1", "Connection: close"))
	is(t, 0, e.Answer(n, reply(200, "xyz", fresh)), "206 Partial Content\r\nCache-Control: max-age=60\r\nContent-Range: bytes 1-1/3\r\nVia: 1.1 ambry\r\nConnection: close\r\n", "y")
	told(t, e, get("/b"), "200 R\r\n", "xyz")
	n, _ = ask(t, e, get("/c", "Range: bytes=1-1"))
	is(t, 0, e.Answer(n, reply(404, "none")), "404 R\r\n", "none")
	n, s = ask(t, e, strings.Replace(get("/d", "Range: bytes=1-1"), "GET", "HEAD", 1))
	if !strings.Contains(s, "Range: bytes=1-1\r\n") {
		t.Errorf("%q", s)
	}
	e.Lost(n)
}

func TestPartsOff(t *testing.T) { // P31.2
	e := edgeOf(t, "ranges off")
	n, s := ask(t, e, get("/a", "Range: bytes=0-1"))
	if !strings.Contains(s, "Range: bytes=0-1\r\n") {
		t.Errorf("%q", s)
	}
	is(t, 0, e.Answer(n, reply(200, "abcdef", fresh)), "200 R\r\n", "abcdef")
	told(t, e, get("/a", "Range: bytes=0-1"), "200 R\r\n", "abcdef")
}

func TestConsole(t *testing.T) { // P31.5, and the example
	e := edgeOf(t, "log 3", "deny * * /secret")
	console := func(s string) string { return strings.Replace(s, "Host: h", "Host: CONSOLE:80", 1) }
	post := func(body string) string {
		return "POST /x HTTP/1.1\r\nHost: console\r\nContent-Length: " + strconv.Itoa(len(body)) + "\r\n\r\n" + body
	}
	for _, target := range []string{"/a", "/b", "/a/c"} {
		n, _ := ask(t, e, get(target))
		e.Answer(n, reply(200, "body", fresh))
	}
	want := "200 OK\r\nContent-Type: text/plain\r\nContent-Length: 66\r\n"
	stat := "hit 0\nmiss 3\ncheck 0\ndeny 0\nerror 0\nconsole 0\nbytes 12\n"
	want = strings.Replace(want, "66", strconv.Itoa(len(stat)), 1)
	told(t, e, console(get("/?stat")), want, stat)
	noted(t, e, `console "GET" "console" "/?stat" 200 `+strconv.Itoa(len(stat)))
	told(t, e, post("rules"), "200 OK\r\n", conf.Text(e.Conf()))
	noted(t, e, `console "POST" "console" "/x" 200 `+strconv.Itoa(len(conf.Text(e.Conf()))))
	told(t, e, post(" log\t2 "), "200 OK\r\n", line.Text(e.Log(2)[0])+"\n"+line.Text(e.Log(1)[0])+"\n")
	if len(e.Log(9)) != 3 {
		t.Error("log 3")
	}
	told(t, e, post("log 0"), "200 OK\r\n", "")
	told(t, e, console(get("/?show+h%2Fa**")), "200 OK\r\n", "h/a\nh/a/c\n")
	told(t, e, post("show **"), "200 OK\r\n", "h/a\nh/b\nh/a/c\n")
	told(t, e, console(get("/?%70urge%20h/*")), "200 OK\r\n", "purged 2\n")
	told(t, e, post("show **"), "200 OK\r\n", "h/a/c\n")
	n, _ := ask(t, e, get("/a"))
	e.Lost(n)
	told(t, e, get("/a/c"), "200 R\r\n", "body")
	told(t, e, post("purge x"), "200 OK\r\n", "purged 0\n")
	told(t, e, post("sync"), "200 OK\r\n", "synced\n")
	for _, s := range []string{post(""), post("what"), post("show+a"), console(get("/")), console(get("/?")), console(get("/?stat+1")), console(get("/?a%2Bb"))} {
		told(t, e, s, "400 Bad Request\r\nContent-Type: text/plain\r\n", "what\n")
	}
	told(t, e, console(get("/?stat", "Connection: close")), "200 OK\r\nContent-Type: text/plain\r\nConnection: close\r\n", e.Stat())
	told(t, e, strings.Replace(post(""), "POST", "PUT", 1), "405 Error\r\nContent-Length: 0\r\n", "")
	noted(t, e, `console "PUT" "console" "/x" 405 0`)
	told(t, e, strings.Replace(console(get("/?stat")), "GET", "HEAD", 1), "405 Error\r\n", "")
	told(t, e, console(get("/secret?stat")), "403 Error\r\n", "") // rules come first
	if len(e.Waiting()) != 0 {
		t.Error("the origin is asked")
	}
}

func TestConsoleOfAnotherName(t *testing.T) { // P31.2
	e := edgeOf(t, "console ADMIN")
	told(t, e, "GET /?sync HTTP/1.1\r\nHost: admin\r\n\r\n", "200 OK\r\n", "synced\n")
	ask(t, e, "GET /?sync HTTP/1.1\r\nHost: console\r\n\r\n")
}

func TestKnown(t *testing.T) { // P31.3: what was put, and what a request that changes things dropped
	e := edgeOf(t)
	show := func(want string) {
		t.Helper()
		told(t, e, "GET /?show+** HTTP/1.1\r\nHost: console\r\n\r\n", "200 OK\r\n", want)
	}
	answer := func(s string, b []byte) {
		n, _ := ask(t, e, s)
		e.Answer(n, b)
	}
	answer(get("/a/../b"), reply(200, "", fresh))
	answer(get("/c"), reply(200, "", "Cache-Control: no-store"))
	answer(get("/d"), reply(200, "", fresh))
	show("h/b\nh/d\n")
	answer(strings.Replace(get("/b"), "GET", "POST", 1), reply(500, ""))
	show("h/b\nh/d\n")
	answer(strings.Replace(get("/b"), "GET", "POST", 1), reply(302, ""))
	show("h/d\n")
	ask(t, e, get("/b"))
}

func TestDown(t *testing.T) { // P31.5, P21.6
	d := disk.New(4000, 256)
	e, _, _ := New(d, 1<<16, 0, "")
	n, _ := ask(t, e, get("/a"))
	e.Answer(n, reply(200, "", fresh))
	d.Cut(0)
	told(t, e, "GET /?sync HTTP/1.1\r\nHost: console\r\n\r\n", "200 OK\r\n", "down\n")
	if e.Sync() != api.ErrDiskDead {
		t.Error("sync")
	}
	n, _ = ask(t, e, get("/a"))
	is(t, 0, e.Answer(n, reply(200, "x", fresh)), "200 R\r\n", "x")
	ask(t, e, get("/a"))
}

func TestNotedAsRead(t *testing.T) { // P31.4: the body as http.Response reads the reply
	e := edgeOf(t)
	n, _ := ask(t, e, strings.Replace(get("/a"), "GET", "HEAD", 1))
	e.Answer(n, reply(200, "", "Content-Length: 77"))
	noted(t, e, `miss "HEAD" "h" "/a" 200 0`)
	b := flow.Error(400, true)
	if _, got := e.Ask(nil); string(got) != string(b) {
		t.Errorf("%q", got)
	}
}
