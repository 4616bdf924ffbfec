package script

import (
	"bytes"
	"math/rand"
	"reflect"
	"strconv"
	"strings"
	"testing"

	"ambry/api"
	"ambry/date"
	"ambry/head"
	"ambry/http"
)

func life(t *testing.T, sectors, size, memory int) *Life {
	t.Helper()
	x, e := New(sectors, size, memory, 1000)
	if e != api.OK || x == nil {
		t.Fatal(e)
	}
	return x
}

// show answers what goes out as a text.
func show(outs []api.Out) string {
	s := ""
	for _, o := range outs {
		s += strconv.FormatBool(o.Origin) + " " + strconv.Itoa(o.To) + " " + strconv.Quote(string(o.B)) + " " + strconv.FormatBool(o.Close) + "\n"
	}
	return s
}

func client(n int, s string) api.Event { return api.Event{Kind: api.EventClient, A: n, B: []byte(s)} }
func origin(x int, s string) api.Event { return api.Event{Kind: api.EventOrigin, A: x, B: []byte(s)} }

const (
	ask   = "GET /a HTTP/1.1\r\nHost: h\r\n\r\n"
	fresh = "HTTP/1.1 200 OK\r\nCache-Control: max-age=60\r\n\r\nbody"
)

func TestNew(t *testing.T) { // P22.1
	if x, e := New(63, 128, 0, 0); e != api.ErrVolForm || x != nil {
		t.Error(e)
	}
	x, e := New(100, 200, 0, -7)
	if e != api.OK || x.Disk().Sectors() != 100 || x.Disk().Size() != 200 || x.Proxy().Now() != 0 || x.Proxy().Down() {
		t.Error(e)
	}
}

func TestEvents(t *testing.T) { // P22.1, P22.2, and the example
	x := life(t, 2000, 256, 0)
	if o := x.Do(client(1, ask)); len(o) != 1 || !o[0].Origin || o[0].To != 1 {
		t.Error(o)
	}
	x.Do(api.Event{Kind: api.EventTick, A: 5})
	if o := x.Do(origin(1, fresh)); len(o) != 1 || o[0].To != 1 || !bytes.HasSuffix(o[0].B, []byte("\r\n\r\nbody")) {
		t.Error(o)
	}
	x.Do(api.Event{Kind: api.EventTick, A: 5})
	if o := x.Do(client(2, ask)); len(o) != 1 || !strings.Contains(string(o[0].B), "Age: 10\r\n") {
		t.Error(show(o))
	}
	x.Do(client(1, "GET /b HTTP/1.1\r\nHost: h\r\n\r\n"))
	if o := x.Do(api.Event{Kind: api.EventLost, A: 2}); len(o) != 1 || !bytes.HasPrefix(o[0].B, []byte("HTTP/1.1 502")) {
		t.Error(o)
	}
	x.Do(client(1, "GET /b HTTP/1.1\r\nHost: h\r\n\r\n"))
	x.Do(api.Event{Kind: api.EventGone, A: 1})
	if o := x.Do(origin(3, fresh)); o != nil {
		t.Error(o)
	}
	x.Do(api.Event{Kind: api.EventTick, A: -5})
	if x.Proxy().Now() != 1010 {
		t.Error(x.Proxy().Now())
	}
	for _, kind := range []int{-1, 7, 99} {
		if o := x.Do(api.Event{Kind: kind, A: 1, B: []byte(ask)}); o != nil {
			t.Error(kind)
		}
	}
}

func TestCrash(t *testing.T) { // P22.1, P50.3
	x := life(t, 2000, 256, 1<<16)
	x.Do(client(1, ask))
	x.Do(origin(1, fresh))
	x.Do(api.Event{Kind: api.EventSync})
	x.Do(client(1, ask[:10]))
	x.Do(client(2, strings.Replace(ask, "/a", "/b", 1)))
	d, p := x.Disk(), x.Proxy()
	x.Do(api.Event{Kind: api.EventTick, A: 9})
	if o := x.Do(api.Event{Kind: api.EventCrash}); o != nil || x.Disk() != d || x.Proxy() == p || x.Proxy().Now() != 1009 || x.Proxy().Waiting() != nil {
		t.Error("crash")
	}
	if o := x.Do(origin(2, fresh)); o != nil {
		t.Error("an exchange is there yet")
	}
	if o := x.Do(client(1, ask)); len(o) != 1 || o[0].Origin || !strings.Contains(string(o[0].B), "Age: 9\r\n") {
		t.Error(show(o))
	}
	x.Do(client(1, strings.Replace(ask, "/a", "/c", 1)))
	if w := x.Proxy().Waiting(); len(w) != 1 || w[0] != 1 {
		t.Error("numbers begin anew", w)
	}
}

func TestCrashNumbers(t *testing.T) { // P22.1: keep is A, torn the first eight bytes of B
	for _, c := range []struct {
		a    int
		b    string
		want [3]byte
	}{
		{0, "", [3]byte{0, 0, 0}}, {5, "", [3]byte{9, 0, 9}}, {-1, "", [3]byte{9, 9, 9}}, {-1, "\x02", [3]byte{9, ^byte(9), 9}},
		{0, "\x00\x00\x00\x00\x00\x00\x00\x01\xff\xff", [3]byte{^byte(9), 0, 0}}, {7, "\x01\x00", [3]byte{9, 9, 9}},
	} {
		x := life(t, 100, 128, 0)
		for i := range 3 {
			x.Disk().Write(97+i, bytes.Repeat([]byte{9}, 128))
		}
		x.Do(api.Event{Kind: api.EventCrash, A: c.a, B: []byte(c.b)})
		for i, want := range c.want {
			if b, _ := x.Disk().Read(97 + i); b[0] != want {
				t.Errorf("%v: sector %d: %d", c, i, b[0])
			}
		}
	}
}

func TestPlay(t *testing.T) { // P22.2
	events := []api.Event{client(1, ask), origin(1, fresh), client(1, ask), client(1, ask)}
	x := life(t, 2000, 256, 0)
	n := 0
	seq := Play(x, events)
	events[0].B[0] = 'x' // what was handed in isn't kept
	events[1].Kind = 99
	for i, o := range seq {
		if i != n || len(o) != 1 {
			t.Error(i, o)
		}
		n++
		if n == 3 {
			break
		}
	}
	if n != 3 {
		t.Error(n)
	}
	for range Play(x, nil) {
		t.Error("nothing to play")
	}
}

// world makes a life's events up.
type world struct {
	r    *rand.Rand
	said int
}

func (w *world) pick(s ...string) string { return s[w.r.Intn(len(s))] }

// request answers the bytes of a request.
func (w *world) request() string {
	method := w.pick("GET", "GET", "GET", "GET", "GET", "GET", "HEAD", "POST", "DELETE")
	s := method + " /" + strconv.Itoa(w.r.Intn(7)) + " HTTP/1.1\r\nHost: " + w.pick("h", "H", "g") + "\r\nA: " + strconv.Itoa(w.r.Intn(3)) + "\r\n"
	s += w.pick("", "", "", "", "", "Connection: close\r\n", "Cache-Control: no-cache\r\n", "Cache-Control: max-stale=5\r\n", "Cache-Control: only-if-cached\r\n",
		"Authorization: x\r\n", "Range: bytes=0-1\r\n", "If-None-Match: \"e1\"\r\n", "Cache-Control: no-store\r\n", "Connection: A\r\n", "B: x\r\n", "Cache-Control: min-fresh=3\r\n")
	if method == "POST" {
		s += "Content-Length: 3\r\n\r\nabc"
		return s
	}
	return s + "\r\n"
}

// response answers the bytes of a response; its body tells which it is.
func (w *world) response(now int64) string {
	w.said++
	if w.r.Intn(12) == 0 {
		return w.pick("", "what", "HTTP/1.1 200 OK\r\nContent-Length: 9\r\n\r\nshort", "HTTP/1.1 100 Go\r\n\r\n", "HTTP/1.1 200 OK\r\n:\r\n\r\n")
	}
	s := "HTTP/1.1 " + w.pick("200", "200", "200", "200", "200", "304", "404", "302", "500", "204", "206") + " R\r\n"
	s += w.pick("", "Date: "+date.Text(now-int64(w.r.Intn(9)))+"\r\n")
	s += w.pick("Cache-Control: max-age="+strconv.Itoa(w.r.Intn(20)), "Cache-Control: max-age=9, must-revalidate", "X: y", "Cache-Control: no-store", "Cache-Control: s-maxage=7", "Cache-Control: public, max-age=30", "Cache-Control: private") + "\r\n"
	s += w.pick("", "Vary: A\r\n", "Vary: A\r\n", "Vary: B, A\r\n", "Vary: *\r\n")
	s += w.pick("", "ETag: \"e"+strconv.Itoa(w.r.Intn(3))+"\"\r\n", "Last-Modified: "+date.Text(now-100)+"\r\n", "Age: 3\r\n")
	return s + "\r\n" + strconv.Itoa(w.said) + strings.Repeat(" body", w.r.Intn(30))
}

// event makes one up; what waits for the origin is told.
func (w *world) event(waiting []int, now int64) api.Event {
	switch k := w.r.Intn(40); {
	case k < 16 || k < 30 && len(waiting) == 0:
		s := w.request()
		for w.r.Intn(3) == 0 {
			s += w.request()
		}
		if w.r.Intn(6) == 0 {
			s = s[:w.r.Intn(len(s)+1)]
		}
		if w.r.Intn(30) == 0 {
			s = s[w.r.Intn(len(s)+1):]
		}
		return client(w.r.Intn(6), s)
	case k < 30:
		return origin(waiting[w.r.Intn(len(waiting))], w.response(now))
	case k < 32:
		return api.Event{Kind: api.EventLost, A: w.r.Intn(w.said + 2)}
	case k < 34:
		return api.Event{Kind: api.EventGone, A: w.r.Intn(7)}
	case k < 39:
		return api.Event{Kind: api.EventTick, A: w.r.Intn(6)}
	}
	return api.Event{Kind: api.EventSync}
}

func TestAgainstModel(t *testing.T) { // P50.1, P50.2, P50.5, P50.6, P50.8: where there is room, just what the model tells
	for seed := range int64(40) {
		w := &world{r: rand.New(rand.NewSource(seed))}
		memory := []int{0, 500, 1 << 20}[seed%3]
		x, m := life(t, 8000, 512, memory), newModel(1000)
		var all []api.Event
		var outs [][]api.Out
		do := func(e api.Event) {
			got, want := x.Do(e), m.do(e)
			if len(got)+len(want) > 0 && !reflect.DeepEqual(got, want) {
				t.Fatalf("seed %d, event %d: %q\n got %q\nwant %q", seed, len(all), e.B, show(got), show(want))
			}
			all, outs = append(all, e), append(outs, got)
		}
		for range 600 {
			do(w.event(x.Proxy().Waiting(), x.Proxy().Now()))
			if w.r.Intn(100) == 0 { // what is sure is there behind a crash
				do(api.Event{Kind: api.EventSync})
				do(api.Event{Kind: api.EventCrash, A: w.r.Int(), B: []byte("torn all")})
			}
		}
		for i, o := range Play(life(t, 8000, 512, memory), all) {
			if !reflect.DeepEqual(o, outs[i]) {
				t.Fatal("the same life again tells another thing")
			}
		}
	}
}

// promise: what a connection's requests, one behind another, were.
type promise struct{ method, address string }

func TestSmallLives(t *testing.T) { // P50.3, P50.4, P50.6, P50.7: what is forgotten is asked again, nothing is mixed
	for seed := range int64(40) {
		r := rand.New(rand.NewSource(seed))
		size := [][2]int{{64, 128}, {100, 128}, {300, 128}, {64, 1024}, {600, 256}}[seed%5]
		x := life(t, size[0], size[1], []int{0, 2000}[seed%2])
		open := map[int][]promise{}
		asked := map[int]string{}
		check := func(outs []api.Out) {
			for _, o := range outs {
				if o.Origin {
					q, _, e := http.Request(o.B)
					if e != api.OK {
						t.Fatal(e)
					}
					a, _ := head.Get(q.Fields, "A")
					asked[o.To] = q.Target + " " + a
					continue
				}
				if len(open[o.To]) == 0 {
					t.Fatal("a reply without a request")
				}
				p := open[o.To][0]
				open[o.To] = open[o.To][1:]
				res, e := http.Response(o.B, p.method)
				if e != api.OK || res.Status != 502 && !strings.HasPrefix(string(res.Body), p.address+" ") {
					t.Fatalf("seed %d: %q is told %q", seed, p.address, o.B)
				}
				if age, ok := head.Get(res.Fields, "Age"); ok && len(age) > 1 {
					t.Fatal("it isn't fresh", age)
				}
			}
		}
		for range 400 {
			waiting := x.Proxy().Waiting()
			switch k := r.Intn(20); {
			case k < 9:
				n, p := r.Intn(5), promise{"GET", "/" + strconv.Itoa(r.Intn(9)) + " " + strconv.Itoa(r.Intn(2))}
				target, a, _ := strings.Cut(p.address, " ")
				open[n] = append(open[n], p)
				check(x.Do(client(n, "GET "+target+" HTTP/1.1\r\nHost: h\r\nA: "+a+"\r\n\r\n")))
			case k < 15 && len(waiting) > 0:
				w := waiting[r.Intn(len(waiting))]
				body := asked[w] + " " + strings.Repeat("x", r.Intn(1500))
				check(x.Do(origin(w, "HTTP/1.1 200 OK\r\nVary: A\r\nCache-Control: max-age=9\r\n\r\n"+body)))
			case k < 16:
				x.Do(api.Event{Kind: api.EventTick, A: r.Intn(4)})
			case k < 17:
				x.Do(api.Event{Kind: api.EventSync})
			case k < 18:
				x.Disk().Cut(r.Intn(300))
			case k < 19:
				x.Do(api.Event{Kind: api.EventCrash, A: r.Int(), B: []byte{byte(r.Intn(256)), byte(r.Intn(256))}})
				clear(open)
				clear(asked)
			}
		}
	}
}

func TestAnyBytes(t *testing.T) { // P50.9
	for seed := range int64(20) {
		r := rand.New(rand.NewSource(seed))
		w := &world{r: r}
		x := life(t, 64+r.Intn(300), 128+r.Intn(200), r.Intn(5000))
		for range 500 {
			e := w.event(x.Proxy().Waiting(), x.Proxy().Now())
			for range r.Intn(4) {
				if len(e.B) > 0 {
					e.B[r.Intn(len(e.B))] = byte(r.Intn(256))
				}
			}
			if r.Intn(20) == 0 {
				e = api.Event{Kind: r.Intn(9) - 1, A: r.Int() >> r.Intn(64), B: e.B}
			}
			x.Do(e)
			if r.Intn(50) == 0 {
				x.Disk().Cut(r.Intn(100))
			}
		}
	}
}
