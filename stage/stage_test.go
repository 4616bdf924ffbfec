package stage

import (
	"bytes"
	"math/rand"
	"slices"
	"strconv"
	"strings"
	"testing"

	"ambry/api"
	"ambry/date"
	"ambry/head"
	"ambry/http"
)

func life(t *testing.T, sectors, size, memory int, settings string) *Life {
	t.Helper()
	x, n, e := New(sectors, size, memory, 1000, settings)
	if e != api.OK || n != 0 || x == nil {
		t.Fatal(n, e)
	}
	return x
}

func event(kind, a int, s string) api.Event { return api.Event{Kind: kind, A: a, B: []byte(s)} }

const (
	ask  = "GET /a HTTP/1.1\r\nHost: h\r\n\r\n"
	good = "HTTP/1.1 200 OK\r\nCache-Control: max-age=60\r\n\r\nbody"
)

// does lets an event happen; it must tell a number, and bytes that begin so.
func does(t *testing.T, x *Life, e api.Event, want int, begins string) {
	t.Helper()
	n, b := x.Do(e)
	if n != want || !strings.HasPrefix(string(b), begins) || begins == "" && len(b) > 0 {
		t.Errorf("%d: %d %q", e.Kind, n, b)
	}
}

func TestNew(t *testing.T) { // P32.1
	if x, n, e := New(64, 128, 0, 0, "\n\nwhat"); e != api.ErrConf || n != 3 || x != nil {
		t.Error(n, e)
	}
	if x, n, e := New(63, 128, 0, 0, ""); e != api.ErrVolForm || n != 0 || x != nil {
		t.Error(n, e)
	}
	x := life(t, 100, 200, 0, "log 9")
	if x.Disk().Sectors() != 100 || x.Disk().Size() != 200 || x.Edge().Conf().Log != 9 {
		t.Error("new")
	}
}

func TestEvents(t *testing.T) { // P32.1, and the example
	x := life(t, 2000, 256, 0, "")
	does(t, x, event(api.EdgeAsk, 9, ask), 1, "GET /a HTTP/1.1\r\n")
	does(t, x, event(api.EdgeAnswer, 2, good), 0, "")
	does(t, x, event(api.EdgeTick, 5, ""), 0, "")
	does(t, x, event(api.EdgeAnswer, 1, good), 0, "HTTP/1.1 200 OK\r\n")
	does(t, x, event(api.EdgeTick, 7, ""), 0, "")
	does(t, x, event(api.EdgeAsk, 0, ask), 0, "HTTP/1.1 200 OK\r\nCache-Control: max-age=60\r\nAge: 12\r\n")
	does(t, x, event(api.EdgeAsk, 0, strings.Replace(ask, "/a", "/b", 1)), 2, "GET /b HTTP/1.1\r\n")
	does(t, x, event(api.EdgeLost, 2, ""), 0, "HTTP/1.1 502 Bad Gateway\r\n")
	does(t, x, event(api.EdgeLost, 2, ""), 0, "")
	does(t, x, event(api.EdgeSync, 0, ""), 0, "")
	for _, kind := range []int{-1, 6, 99} {
		does(t, x, event(kind, 1, ask), 0, "")
	}
	x.Disk().Cut(0)
	does(t, x, event(api.EdgeSync, 0, ""), int(api.ErrDiskDead), "")
}

func TestCrash(t *testing.T) { // P32.1
	x := life(t, 2000, 256, 1<<16, "console c\nlog 50")
	x.Do(event(api.EdgeAsk, 0, ask))
	x.Do(event(api.EdgeAnswer, 1, good))
	x.Do(event(api.EdgeSync, 0, ""))
	x.Do(event(api.EdgeAsk, 0, strings.Replace(ask, "/a", "/b", 1)))
	x.Do(event(api.EdgeTick, 9, ""))
	x.Do(event(api.EdgeTick, -9, ""))
	d, e := x.Disk(), x.Edge()
	does(t, x, event(api.EdgeCrash, -1, "\x01"), 0, "")
	if x.Disk() != d || x.Edge() == e || len(x.Edge().Waiting()) != 0 || len(x.Edge().Log(9)) != 0 || x.Edge().Conf().Log != 50 {
		t.Error("not new")
	}
	does(t, x, event(api.EdgeAnswer, 2, good), 0, "")
	does(t, x, event(api.EdgeAsk, 0, "GET /?show+** HTTP/1.1\r\nHost: c\r\n\r\n"), 0, "HTTP/1.1 200 OK\r\nContent-Type: text/plain\r\nContent-Length: 0\r\n")
	does(t, x, event(api.EdgeAsk, 0, ask), 0, "HTTP/1.1 200 OK\r\nCache-Control: max-age=60\r\nAge: 9\r\n")
	if l := x.Edge().Log(1); l[0].Time != 1009 {
		t.Error(l)
	}
	does(t, x, event(api.EdgeAsk, 0, strings.Replace(ask, "/a", "/b", 1)), 1, "GET /b")
}

func TestCrashNumbers(t *testing.T) { // P32.1: as chapter 22's
	x := life(t, 100, 128, 0, "")
	for i := range 3 {
		x.Disk().Write(97+i, bytes.Repeat([]byte{9}, 128))
	}
	x.Do(event(api.EdgeCrash, 5, "\x00\x00\x00\x00\x00\x00\x00\x01 and more"))
	for i, want := range []byte{^byte(9), 0, 9} {
		if b, _ := x.Disk().Read(97 + i); b[0] != want {
			t.Error(i, b[0])
		}
	}
}

func TestPlay(t *testing.T) { // P32.1
	events := []api.Event{event(api.EdgeAsk, 0, ask), event(api.EdgeAnswer, 1, good), event(api.EdgeAsk, 0, ask), event(api.EdgeAsk, 0, ask)}
	x := life(t, 2000, 256, 0, "")
	seq := Play(x, events)
	events[0].B[0] = 'x' // what was handed in isn't kept
	events[1].Kind = 99
	var numbers []int
	for n, b := range seq {
		numbers = append(numbers, n)
		if len(b) == 0 {
			t.Error("nothing is told")
		}
		if len(numbers) == 3 {
			break
		}
	}
	if !slices.Equal(numbers, []int{1, 0, 0}) || len(x.Edge().Log(9)) != 2 {
		t.Error(numbers)
	}
}

// world makes a life's events up.
type world struct {
	r    *rand.Rand
	said int
}

func (w *world) pick(s ...string) string { return s[w.r.Intn(len(s))] }

func (w *world) request() string {
	if w.r.Intn(12) == 0 {
		return w.pick("", "what\r\n\r\n", "GET /%z HTTP/1.1\r\nHost: h\r\n\r\n", "GET / HTTP/1.1\r\n\r\n", ask+ask)
	}
	if w.r.Intn(6) == 0 {
		command := w.pick("stat", "rules", "sync", "log+5", "log+50", "show+**", "purge+h/1*", "purge+%2A/2", "what", "purge+**/a/*", "show+h*")
		return w.pick("GET", "GET", "GET", "PUT") + " /?" + command + " HTTP/1.1\r\nHost: CONSOLE\r\n" + w.pick("", "Connection: close\r\n") + "\r\n"
	}
	method := w.pick("GET", "GET", "GET", "GET", "GET", "GET", "HEAD", "POST", "DELETE")
	path := w.pick("/", "/a/../", "/%61/", "/no/", "//") + strconv.Itoa(w.r.Intn(4))
	s := method + " " + path + w.pick("", "", "?x%2f") + " HTTP/1.1\r\nHost: " + w.pick("h", "H:80", "g") + "\r\nA: " + strconv.Itoa(w.r.Intn(2)) + "\r\n"
	s += w.pick("", "", "", "Connection: close\r\n", "Cache-Control: no-cache\r\n", "Cache-Control: max-stale=5\r\n", "Cache-Control: only-if-cached\r\n", "Authorization: x\r\n", "If-None-Match: \"e1\"\r\n")
	s += w.pick("", "", "Range: bytes=0-1\r\n", "Range: bytes=-3,0-0\r\n", "Range: bytes=2-,0-1\r\nIf-Range: \"e1\"\r\n", "Range: x\r\n", "Range: bytes=900-\r\n")
	return s + "\r\n"
}

func (w *world) response(now int64) string {
	w.said++
	if w.r.Intn(12) == 0 {
		return w.pick("", "what", "HTTP/1.1 200 OK\r\nContent-Length: 9\r\n\r\nshort", "HTTP/1.1 100 Go\r\n\r\n")
	}
	s := "HTTP/1.1 " + w.pick("200", "200", "200", "200", "200", "304", "404", "302", "500", "204", "206") + " R\r\n"
	s += w.pick("", "Date: "+date.Text(now-int64(w.r.Intn(9)))+"\r\n")
	s += w.pick("Cache-Control: max-age="+strconv.Itoa(w.r.Intn(20)), "Cache-Control: max-age=9, must-revalidate", "X: y", "Cache-Control: no-store", "Cache-Control: s-maxage=7", "Cache-Control: public, max-age=30") + "\r\n"
	s += w.pick("", "Vary: A\r\n", "Vary: A\r\n", "Vary: *\r\n") + w.pick("", "ETag: \"e"+strconv.Itoa(w.r.Intn(3))+"\"\r\n", "Last-Modified: "+date.Text(now-100)+"\r\n", "Age: 3\r\n")
	return s + "\r\n" + strconv.Itoa(w.said) + strings.Repeat(" body", w.r.Intn(30))
}

func (w *world) event(waiting []int, now int64) api.Event {
	switch k := w.r.Intn(40); {
	case k < 20 || k < 33 && len(waiting) == 0:
		return event(api.EdgeAsk, 0, w.request())
	case k < 33:
		return event(api.EdgeAnswer, waiting[w.r.Intn(len(waiting))], w.response(now))
	case k < 34:
		return event(api.EdgeLost, w.r.Intn(w.said+2), "")
	case k < 39:
		return event(api.EdgeTick, w.r.Intn(6), "")
	}
	return event(api.EdgeSync, 0, "")
}

// does tells what the model tells of an event.
func (m *model) does(e api.Event) (int, []byte) {
	switch e.Kind {
	case api.EdgeAsk:
		return m.ask(e.B)
	case api.EdgeAnswer, api.EdgeLost:
		return 0, m.answer(e.A, e.B, e.Kind == api.EdgeLost)
	case api.EdgeTick:
		m.now += int64(e.A)
	case api.EdgeCrash:
		m.crash()
	}
	return 0, nil
}

func TestAgainstModel(t *testing.T) { // P50.10, P50.11, P50.12, P50.8, P32.2: where there is room, just what the model tells
	const rules = "deny * * /no/**\nlog 30\nallow DELETE g **\ndeny DELETE * **\n"
	for seed := range int64(40) {
		w := &world{r: rand.New(rand.NewSource(seed))}
		memory := []int{0, 500, 1 << 20}[seed%3]
		settings := rules + []string{"", "ranges off"}[seed/3%2]
		x, m := life(t, 8000, 512, memory, settings), newModel(1000, settings)
		var all []api.Event
		var told []string
		do := func(e api.Event) {
			n, b := x.Do(e)
			want, wantB := m.does(e)
			if n != want || string(b) != string(wantB) {
				t.Fatalf("seed %d, event %d: %q\n got %d %q\nwant %d %q", seed, len(all), e.B, n, b, want, wantB)
			}
			if !slices.Equal(x.Edge().Log(50), m.log) || x.Edge().Stat() != m.stat.Text() {
				t.Fatal("log, stat")
			}
			all, told = append(all, e), append(told, string(b))
		}
		for range 500 {
			do(w.event(x.Edge().Waiting(), m.now))
			if w.r.Intn(100) == 0 { // what is sure is there behind a crash
				do(event(api.EdgeSync, 0, ""))
				do(event(api.EdgeCrash, w.r.Int(), "torn all"))
			}
		}
		i := 0
		for _, b := range Play(life(t, 8000, 512, memory, settings), all) {
			if string(b) != told[i] {
				t.Fatal("the same life again tells another thing")
			}
			i++
		}
	}
}

func TestSmallLives(t *testing.T) { // P50.3, P50.4, P50.12, P32.2: what is forgotten is asked again, nothing is mixed
	for seed := range int64(30) {
		r := rand.New(rand.NewSource(seed))
		size := [][2]int{{64, 128}, {100, 128}, {300, 128}, {64, 1024}, {600, 256}}[seed%5]
		x := life(t, size[0], size[1], []int{0, 2000}[seed%2], "")
		said := map[string][]string{} // bodies, by address and field
		asked := map[int]string{}
		check := func(address string, b []byte) {
			res, e := http.Response(b, "GET")
			if e != api.OK {
				t.Fatal(e)
			}
			v, parts := head.Get(res.Fields, "Content-Range")
			whole := slices.ContainsFunc(said[address], func(s string) bool {
				if !parts {
					return s == string(res.Body)
				}
				return strings.HasPrefix(v, "bytes 3-8/"+strconv.Itoa(len(s))) && s[3:9] == string(res.Body)
			})
			if res.Status != 502 && !whole {
				t.Fatalf("seed %d: %q is told %q", seed, address, b)
			}
		}
		for range 400 {
			waiting := x.Edge().Waiting()
			switch k := r.Intn(20); {
			case k < 10:
				address := "/" + strconv.Itoa(r.Intn(9)) + " " + strconv.Itoa(r.Intn(2))
				target, a, _ := strings.Cut(address, " ")
				s := "GET " + target + " HTTP/1.1\r\nHost: h\r\nA: " + a + "\r\n" + []string{"", "Range: bytes=3-8\r\n"}[r.Intn(2)] + "\r\n"
				if n, b := x.Do(event(api.EdgeAsk, 0, s)); n > 0 {
					asked[n] = address
				} else {
					check(address, b)
				}
			case k < 15 && len(waiting) > 0:
				n := waiting[r.Intn(len(waiting))]
				body := "this is " + asked[n] + " " + strings.Repeat(strconv.Itoa(r.Intn(99)), r.Intn(700))
				said[asked[n]] = append(said[asked[n]], body)
				_, b := x.Do(event(api.EdgeAnswer, n, "HTTP/1.1 200 OK\r\nVary: A\r\nCache-Control: max-age=9\r\n\r\n"+body))
				check(asked[n], b)
			case k < 16:
				x.Do(event(api.EdgeTick, r.Intn(4), ""))
			case k < 17:
				x.Do(event(api.EdgeSync, 0, ""))
			case k < 18:
				x.Disk().Cut(r.Intn(300))
			case k < 19:
				x.Do(event(api.EdgeCrash, r.Int(), string([]byte{byte(r.Intn(256)), byte(r.Intn(256))})))
				clear(asked)
			}
		}
	}
}

func TestBehindACrash(t *testing.T) { // P50.3: what the cache held at some point behind the last Sync, or nothing
	for seed := range int64(200) {
		r := rand.New(rand.NewSource(seed))
		x := life(t, 300, 256, 0, "")
		fetch := func(version string) {
			for i := range 3 {
				if n, _ := x.Do(event(api.EdgeAsk, 0, strings.Replace(ask, "/a", "/"+strconv.Itoa(i), 1))); n > 0 {
					x.Do(event(api.EdgeAnswer, n, good+version+strings.Repeat("x", 400)))
				}
			}
		}
		fetch("1")
		x.Do(event(api.EdgeSync, 0, ""))
		x.Do(event(api.EdgeTick, 100, ""))
		x.Disk().Cut(r.Intn(40))
		fetch("2")
		n, _ := x.Do(event(api.EdgeSync, 0, ""))
		x.Do(event(api.EdgeCrash, r.Int(), string([]byte{byte(r.Intn(256)), byte(r.Intn(256))})))
		for i := range 3 {
			s := strings.Replace(ask, "/a", "/"+strconv.Itoa(i), 1)
			_, b := x.Do(event(api.EdgeAsk, 0, strings.Replace(s, "\r\n\r\n", "\r\nCache-Control: max-stale, only-if-cached\r\n\r\n", 1)))
			old, newer := bytes.Contains(b, []byte("body1x")), bytes.Contains(b, []byte("body2x"))
			if !old && !newer || n == 0 && old {
				t.Fatalf("seed %d: %q", seed, b)
			}
		}
	}
}

func TestAnyBytes(t *testing.T) { // P50.9
	for seed := range int64(20) {
		r := rand.New(rand.NewSource(seed))
		w := &world{r: r}
		x := life(t, 64+r.Intn(300), 128+r.Intn(200), r.Intn(5000), "")
		for range 500 {
			e := w.event(x.Edge().Waiting(), 1000)
			for range r.Intn(4) {
				if len(e.B) > 0 {
					e.B[r.Intn(len(e.B))] = byte(r.Intn(256))
				}
			}
			if r.Intn(20) == 0 {
				e = api.Event{Kind: r.Intn(8) - 1, A: r.Int() >> r.Intn(64), B: e.B}
			}
			x.Do(e)
			if r.Intn(50) == 0 {
				x.Disk().Cut(r.Intn(100))
			}
		}
	}
}
