package proxy

import (
	"math"
	"reflect"
	"slices"
	"strconv"
	"strings"
	"testing"

	"ambry/api"
	"ambry/disk"
	"ambry/flow"
)

const host = "Host: h\r\n"

func proxyOf(t *testing.T) *Proxy {
	t.Helper()
	p, e := New(disk.New(4000, 256), 1<<16, 1000)
	if e != api.OK || p == nil {
		t.Fatal(e)
	}
	return p
}

// get answers the bytes of a GET, with further lines.
func get(target string, lines ...string) string {
	return "GET " + target + " HTTP/1.1\r\n" + host + strings.Join(append(lines, ""), "\r\n") + "\r\n"
}

// reply answers the bytes of a response.
func reply(status int, body string, lines ...string) []byte {
	return []byte("HTTP/1.1 " + strconv.Itoa(status) + " R\r\n" + strings.Join(append(lines, ""), "\r\n") + "\r\n" + body)
}

// told shows what goes out: >x for a question to the origin, n: for a reply's first and last line, ! where it is closed.
func told(outs []api.Out) string {
	var all []string
	for _, o := range outs {
		s := strconv.Itoa(o.To) + ":" + string(o.B[9:12])
		if o.Origin {
			s = ">" + strconv.Itoa(o.To)
		} else if i := strings.LastIndex(string(o.B), "\r\n\r\n"); i >= 0 {
			s += string(o.B[i+4:])
		}
		if o.Close {
			s += "!"
		}
		all = append(all, s)
	}
	return strings.Join(all, " ")
}

func is(t *testing.T, outs []api.Out, want string) {
	t.Helper()
	if got := told(outs); got != want {
		t.Errorf("%q, want %q", got, want)
	}
}

const fresh = "Cache-Control: max-age=60"

func TestNew(t *testing.T) { // P21.1
	if p, e := New(disk.New(10, 64), 0, 0); e != api.ErrVolForm || p != nil {
		t.Error(e)
	}
	for now, want := range map[int64]int64{-5: 0, 7: 7, math.MaxInt64: api.MaxTime} {
		if p, _ := New(disk.New(100, 128), 0, now); p.Now() != want {
			t.Error(now)
		}
	}
	p := proxyOf(t)
	p.Tick(5)
	p.Tick(-9)
	if p.Now() != 1005 {
		t.Error(p.Now())
	}
	p.Tick(math.MaxInt64)
	if p.Now() != api.MaxTime {
		t.Error(p.Now())
	}
	for _, n := range []int{-1, 64, math.MaxInt, math.MinInt} {
		is(t, p.Client(n, []byte(get("/"))), "")
		p.Gone(n)
		is(t, p.Origin(n, nil), "")
		is(t, p.Lost(n), "")
	}
	is(t, p.Client(63, []byte(get("/"))), ">1")
}

func TestMissThenHit(t *testing.T) { // P21.2 to P21.4, P50.6
	p := proxyOf(t)
	outs := p.Client(3, []byte(get("/a", "X: y")))
	want := api.Out{Origin: true, To: 1, B: []byte("GET /a HTTP/1.1\r\nHost: h\r\nX: y\r\nVia: 1.1 ambry\r\n\r\n")}
	if len(outs) != 1 || !reflect.DeepEqual(outs[0], want) {
		t.Errorf("%+v", outs)
	}
	if !slices.Equal(p.Waiting(), []int{1}) {
		t.Error(p.Waiting())
	}
	p.Tick(2)
	outs = p.Origin(1, reply(200, "body", fresh))
	want = api.Out{To: 3, B: []byte("HTTP/1.1 200 R\r\nCache-Control: max-age=60\r\nVia: 1.1 ambry\r\nContent-Length: 4\r\n\r\nbody")}
	if len(outs) != 1 || !reflect.DeepEqual(outs[0], want) {
		t.Errorf("%+v", outs)
	}
	if len(p.Waiting()) != 0 || p.Origin(1, reply(200, "again")) != nil || p.Lost(1) != nil {
		t.Error("it waits yet")
	}
	p.Tick(5)
	outs = p.Client(4, []byte(get("/a", "Connection: close")))
	want = api.Out{To: 4, Close: true, B: []byte("HTTP/1.1 200 R\r\nCache-Control: max-age=60\r\nAge: 7\r\nVia: 1.1 ambry\r\nConnection: close\r\nContent-Length: 4\r\n\r\nbody")}
	if len(outs) != 1 || !reflect.DeepEqual(outs[0], want) {
		t.Errorf("%+v", outs)
	}
	p.Tick(100)
	is(t, p.Client(4, []byte(get("/a"))), ">2")
	is(t, p.Client(5, []byte(get("/a", "Cache-Control: only-if-cached"))), "5:504")
}

func TestBytesInPieces(t *testing.T) { // P21.2
	p := proxyOf(t)
	all := get("/a")
	for i := range len(all) - 1 {
		is(t, p.Client(0, []byte{all[i]}), "")
	}
	piece := []byte{all[len(all)-1]}
	is(t, p.Client(0, piece), ">1")
	is(t, p.Client(0, nil), "")
	is(t, p.Client(0, []byte(get("/b")+get("/c"))), "") // it is busy
	is(t, p.Origin(1, reply(200, "1")), "0:2001 >2")
	is(t, p.Origin(2, reply(200, "2")), "0:2002 >3")
	is(t, p.Client(0, []byte("GET /d")), "")
	is(t, p.Origin(3, reply(404, "3")), "0:4043")
	is(t, p.Client(0, []byte(" HTTP/1.1\r\n"+host+"\r\n"+get("/a"))), ">4")
}

func TestPipelinedHits(t *testing.T) { // P21.2, P21.7
	p := proxyOf(t)
	p.Client(0, []byte(get("/a")))
	p.Origin(1, reply(200, "A", fresh))
	is(t, p.Client(1, []byte(get("/a")+get("/a")+get("/b")+get("/a"))), "1:200A 1:200A >2")
	is(t, p.Origin(2, reply(200, "B", fresh)), "1:200B 1:200A")
	is(t, p.Client(1, []byte(get("/b")+get("/a", "Connection: close")+get("/b"))), "1:200B 1:200A!")
	is(t, p.Client(1, []byte(get("/b"))), "1:200B") // a new one; the bytes behind are gone
}

func TestRequestsThatCantBeRead(t *testing.T) { // P21.2, P50.5
	p := proxyOf(t)
	is(t, p.Client(0, []byte("what\r\n\r\n"+get("/a"))), "0:400!")
	is(t, p.Client(0, []byte(get("/a"))), ">1")
	p.Client(1, []byte(get("/b")+"wrong\r\n\r\n"))
	is(t, p.Origin(2, reply(200, "B")), "1:200B 1:400!")
	if outs := p.Client(2, []byte("\r\n\r\n")); string(outs[0].B) != string(flow.Error(400, true)) {
		t.Errorf("%q", outs[0].B)
	}
	slow := "POST / HTTP/1.1\r\n" + host + "Transfer-Encoding: chunked\r\n\r\n"
	line := "1;" + strings.Repeat("x", 1000) + "\r\na\r\n"
	slow += strings.Repeat(line, 99)
	is(t, p.Client(3, []byte(slow)), "")
	is(t, p.Client(3, []byte(line)[:100000-len(slow)]), "")
	is(t, p.Client(3, []byte(line)[100000-len(slow):][:1]), "3:400!")
	is(t, p.Client(3, []byte(get("/a"))), "")
	is(t, p.Origin(1, reply(200, "A", fresh)), "0:200A 3:200A")
}

func TestOriginsThatCantBeRead(t *testing.T) { // P21.4, P21.5, P50.5
	p := proxyOf(t)
	p.Client(0, []byte(get("/a")))
	p.Origin(1, reply(200, "A", "Cache-Control: max-age=5"))
	p.Tick(9)
	for x, b := range [][]byte{nil, []byte("what"), []byte("HTTP/1.1 100 Go on\r\n\r\n"), reply(200, "x", "Content-Length: 9")} {
		p.Client(0, []byte(get("/a", "Connection: "+[]string{"x", "close"}[x%2])))
		is(t, p.Origin(x+2, b), "0:502"+[]string{"", "!"}[x%2])
	}
	p.Client(0, []byte(get("/a")+get("/a", "Cache-Control: max-stale")))
	is(t, p.Lost(6), "0:502 0:200A") // what was kept is kept yet
	is(t, p.Lost(6), "")
}

func TestCheck(t *testing.T) { // P21.4
	p := proxyOf(t)
	p.Client(0, []byte(get("/a")))
	p.Origin(1, reply(200, "A", "Cache-Control: max-age=5", "ETag: \"e\""))
	p.Tick(9)
	outs := p.Client(0, []byte(get("/a")))
	if !strings.Contains(string(outs[0].B), "If-None-Match: \"e\"\r\n") {
		t.Errorf("%q", outs[0].B)
	}
	p.Tick(1)
	outs = p.Origin(2, reply(304, "", "Cache-Control: max-age=8", "New: x"))
	is(t, outs, "0:200A")
	if string(outs[0].B) != "HTTP/1.1 200 R\r\nETag: \"e\"\r\nCache-Control: max-age=8\r\nNew: x\r\nAge: 1\r\nVia: 1.1 ambry\r\nContent-Length: 1\r\n\r\nA" {
		t.Errorf("%q", outs[0].B)
	}
	p.Tick(6)
	is(t, p.Client(0, []byte(get("/a"))), "0:200A")
	p.Tick(1)
	is(t, p.Client(0, []byte(get("/a", "If-None-Match: \"e\""))), ">3") // the client's own condition comes later
	is(t, p.Origin(3, reply(304, "")), "0:304")
	p.Tick(9)
	p.Client(0, []byte(get("/a")))
	is(t, p.Origin(4, reply(200, "new", fresh)), "0:200new")
	is(t, p.Client(0, []byte(get("/a"))), "0:200new")
	p.Tick(99)
	p.Client(0, []byte(get("/a")))
	is(t, p.Origin(5, reply(200, "not kept", "Cache-Control: no-store")), "0:200not kept")
	is(t, p.Client(0, []byte(get("/a", "Cache-Control: max-stale"))), ">6") // it was dropped
	is(t, p.Origin(6, reply(304, "")), "0:304")                             // use was UseMiss: handed on
}

func TestCheckOfWhatIsGone(t *testing.T) { // P21.4: 502
	p := proxyOf(t)
	p.Client(0, []byte(get("/a")))
	p.Origin(1, reply(200, "A", "Cache-Control: max-age=5"))
	p.Tick(9)
	is(t, p.Client(0, []byte(get("/a"))), ">2")
	is(t, p.Client(1, []byte("DELETE /a HTTP/1.1\r\n"+host+"\r\n")), ">3")
	is(t, p.Origin(3, reply(200, "")), "1:200")
	is(t, p.Origin(2, reply(304, "")), "0:502")
}

func TestUnsafeMethodsDrop(t *testing.T) { // P21.4
	for _, c := range []struct {
		method string
		status int
		want   string
	}{{"POST", 200, ">3"}, {"PUT", 399, ">3"}, {"DELETE", 204, ">3"}, {"POST", 400, "0:200A"}, {"HEAD", 200, "0:200A"}, {"OPTIONS", 200, "0:200A"}} {
		p := proxyOf(t)
		p.Client(0, []byte(get("/a")))
		p.Origin(1, reply(200, "A", fresh))
		is(t, p.Client(0, []byte(c.method+" /a HTTP/1.1\r\n"+host+"\r\n")), ">2")
		p.Origin(2, reply(c.status, ""))
		is(t, p.Client(0, []byte(get("/a"))), c.want)
	}
}

func TestJoin(t *testing.T) { // P21.3, P21.4, and the example
	p := proxyOf(t)
	is(t, p.Client(5, []byte(get("/a")+get("/b"))), ">1")
	is(t, p.Client(9, []byte(get("/a"))), "")
	is(t, p.Client(2, []byte(get("/a", "Connection: close")+"bytes behind")), "")
	is(t, p.Client(7, []byte(get("/b"))), ">2")
	is(t, p.Client(8, []byte(get("/c"))), ">3")
	is(t, p.Client(9, []byte(get("/c"))), "") // it is busy
	if !slices.Equal(p.Waiting(), []int{1, 2, 3}) {
		t.Error(p.Waiting())
	}
	// The first asked: its reply, and it goes on (it joins 2); then those that joined, by their numbers.
	is(t, p.Origin(1, reply(200, "A", fresh)), "5:200A 2:200A! 9:200A")
	is(t, p.Client(2, []byte(get("/a"))), "2:200A")
	is(t, p.Origin(2, reply(200, "B", fresh)), "7:200B 5:200B")
	is(t, p.Origin(3, reply(200, "C", fresh)), "8:200C 9:200C")
}

func TestJoinersOfAnotherWait(t *testing.T) { // P21.4
	p := proxyOf(t)
	p.Client(0, []byte(get("/a")))
	p.Client(1, []byte(get("/b")))
	p.Client(2, []byte(get("/a")))
	p.Client(3, []byte(get("/b")))
	is(t, p.Origin(2, reply(200, "B", fresh)), "1:200B 3:200B")
	is(t, p.Origin(1, reply(200, "A", fresh)), "0:200A 2:200A")
}

func TestJoinOfWhatIsNotKept(t *testing.T) { // P21.4, P50.7: each begins anew
	p := proxyOf(t)
	for n := range 4 {
		p.Client(n, []byte(get("/a")))
	}
	is(t, p.Origin(1, reply(200, "1", "Cache-Control: private")), "0:2001 >2")
	is(t, p.Origin(2, reply(200, "2", "Vary: *")), "1:2002 >3")
	is(t, p.Lost(3), "2:502 >4")
	is(t, p.Origin(4, []byte("x")), "3:502")
}

func TestJoinOfAnotherVariant(t *testing.T) { // P50.4, P50.7
	p := proxyOf(t)
	p.Client(0, []byte(get("/a", "A: 1")))
	p.Client(1, []byte(get("/a", "A: 2")))
	p.Client(2, []byte(get("/a", "A: 1")))
	p.Client(3, []byte(get("/a", "A: 2")))
	is(t, p.Origin(1, reply(200, "one", fresh, "Vary: A")), "0:200one >2 2:200one")
	is(t, p.Origin(2, reply(200, "two", fresh, "Vary: A")), "1:200two 3:200two")
}

func TestWhoDoesNotJoin(t *testing.T) { // P21.3
	p := proxyOf(t)
	p.Client(0, []byte(get("/a")))
	for i, line := range []string{"Cache-Control: no-cache", "Cache-Control: no-store", "Authorization: x", "Range: bytes=0-1", "Pragma: no-cache"} {
		is(t, p.Client(i+1, []byte(get("/a", line))), ">"+strconv.Itoa(i+2))
	}
	is(t, p.Client(10, []byte("HEAD /a HTTP/1.1\r\n"+host+"\r\n")), ">7")
	is(t, p.Client(11, []byte("GET /a HTTP/1.1\r\nHost: other\r\n\r\n")), ">8")
	is(t, p.Client(12, []byte(get("/a", "Cache-Control: only-if-cached"))), "12:504")
	is(t, p.Client(13, []byte("GET /a HTTP/1.1\r\nhost: H\r\n\r\n")), "") // the same address
	is(t, p.Client(14, []byte("HEAD /b HTTP/1.1\r\n"+host+"\r\n")), ">9")
	is(t, p.Client(15, []byte(get("/b"))), ">10") // nobody joins a HEAD
}

func TestNobodyJoinsACheck(t *testing.T) { // P21.3: its use was UseCheck
	p := proxyOf(t)
	p.Client(0, []byte(get("/a", "A: 1")))
	p.Origin(1, reply(200, "A", "Vary: A", "Cache-Control: max-age=1"))
	p.Tick(5)
	is(t, p.Client(0, []byte(get("/a", "A: 1"))), ">2")
	is(t, p.Client(1, []byte(get("/a", "A: 1"))), ">3")
	is(t, p.Client(2, []byte(get("/a", "A: 2"))), ">4")
	is(t, p.Client(3, []byte(get("/a", "A: 3"))), "") // this one joins 4
}

func TestJoinsTheLowest(t *testing.T) { // P21.3
	p := proxyOf(t)
	p.Client(0, []byte(get("/a", "Authorization: x")))
	p.Client(1, []byte(get("/a", "Range: x")))
	p.Client(2, []byte(get("/a")))
	is(t, p.Origin(2, reply(206, "", fresh)), "1:206")
	is(t, p.Origin(1, reply(200, "A", fresh)), "0:200A >3")
}

func TestGone(t *testing.T) { // P21.5
	p := proxyOf(t)
	p.Client(0, []byte(get("/a")+get("/b")))
	p.Client(1, []byte(get("/a")))
	p.Client(2, []byte(get("/a")))
	p.Gone(0)
	p.Gone(2)
	if !slices.Equal(p.Waiting(), []int{1}) {
		t.Error(p.Waiting())
	}
	is(t, p.Client(0, []byte(get("/c"))), ">2") // a new one
	is(t, p.Client(2, []byte(get("/d"))), ">3")
	is(t, p.Origin(1, reply(200, "A", fresh)), "1:200A")
	is(t, p.Origin(2, reply(200, "C", fresh)), "0:200C")
	is(t, p.Client(5, []byte("GET /x")), "")
	p.Gone(5)
	is(t, p.Client(5, []byte(get("/a"))), "5:200A") // its bytes were gone
	p.Gone(2)
	is(t, p.Lost(3), "")
	p.Gone(2)
	is(t, p.Client(2, []byte(get("/d"))), ">4")
}

func TestDown(t *testing.T) { // P21.6
	d := disk.New(4000, 256)
	p, _ := New(d, 1<<16, 0)
	p.Client(0, []byte(get("/a")))
	p.Origin(1, reply(200, "A", fresh))
	if p.Sync() != api.OK || p.Down() {
		t.Error("sync")
	}
	d.Cut(0)
	if p.Sync() != api.ErrDiskDead || !p.Down() {
		t.Error("down")
	}
	is(t, p.Client(0, []byte(get("/a"))), ">2")
	is(t, p.Origin(2, reply(200, "A", fresh)), "0:200A")
	is(t, p.Client(0, []byte(get("/a"))), ">3")
	is(t, p.Client(1, []byte(get("/a"))), "")
	is(t, p.Origin(3, reply(200, "A", fresh)), "0:200A >4")
}

func TestBodiesGoThrough(t *testing.T) { // P21.2
	p := proxyOf(t)
	outs := p.Client(0, []byte("POST /p HTTP/1.1\r\n"+host+"Transfer-Encoding: chunked\r\n\r\n2\r\nab\r\n0\r\n\r\n"))
	if string(outs[0].B) != "POST /p HTTP/1.1\r\nHost: h\r\nVia: 1.1 ambry\r\nContent-Length: 2\r\n\r\nab" {
		t.Errorf("%q", outs[0].B)
	}
	in := []byte(get("/k"))
	p.Client(1, in[:10])
	rest := slices.Clone(in[10:])
	clear(in)
	is(t, p.Client(1, rest), ">2") // what was handed in isn't kept
}
