package doc

import (
	"bytes"
	"math"
	"math/rand"
	"testing"

	"ambry/api"
	"ambry/disk"
	"ambry/vol"
)

func open(t *testing.T, d *disk.Disk) *Store {
	t.Helper()
	s, e := Open(d)
	if e != api.OK || s == nil {
		t.Fatal(e)
	}
	return s
}

func must(t *testing.T, e api.Errno) {
	t.Helper()
	if e != api.OK {
		t.Fatal(e)
	}
}

// store writes a whole document.
func store(t *testing.T, s *Store, k api.Key, meta, body string) {
	t.Helper()
	w, e := s.Begin(k, []byte(meta))
	must(t, e)
	must(t, s.Append(w, []byte(body)))
	must(t, s.Close(w))
}

func holds(t *testing.T, s *Store, k api.Key, meta, body string) {
	t.Helper()
	m, b, e := s.Read(k)
	if e != api.OK || string(m) != meta || string(b) != body {
		t.Errorf("%v: %.20q %.20q", e, m, b)
	}
}

func none(t *testing.T, s *Store, k api.Key) {
	t.Helper()
	if m, b, e := s.Read(k); e != api.ErrDocNone || m != nil || b != nil {
		t.Errorf("%v: %.20q %.20q", e, m, b)
	}
}

func TestOpenHandsErrorsOn(t *testing.T) {
	if s, e := Open(disk.New(63, 128)); e != api.ErrVolForm || s != nil {
		t.Error(e)
	}
	d := disk.New(64, 128)
	d.Cut(0)
	d.Flush()
	if s, e := Open(d); e != api.ErrDiskDead || s != nil {
		t.Error(e)
	}
}

func TestBeginAppendCloseRead(t *testing.T) { // P7.1, P7.2, and the example
	s := open(t, disk.New(512, 512))
	k := api.Key{1}
	none(t, s, k)
	meta, body := []byte("meta"), []byte("one ")
	w, e := s.Begin(k, meta)
	if e != api.OK || w != 1 {
		t.Fatal(w, e)
	}
	must(t, s.Append(w, body))
	meta[0], body[0] = 'x', 'x'
	must(t, s.Append(w, nil))
	must(t, s.Append(w, []byte("two")))
	none(t, s, k)
	must(t, s.Close(w))
	holds(t, s, k, "meta", "one two")
	none(t, s, api.Key{2})
	if s.Close(w) != api.ErrDocDone || s.Append(w, nil) != api.ErrDocDone || s.Abort(w) != api.ErrDocDone {
		t.Error("goes on behind its end")
	}
	for _, n := range []int{0, -1, 2, math.MaxInt} {
		if s.Close(n) != api.ErrDocDone || s.Append(n, nil) != api.ErrDocDone || s.Abort(n) != api.ErrDocDone {
			t.Error("no such writer", n)
		}
	}
	m, b, _ := s.Read(k)
	m[0], b[0] = 'x', 'x'
	holds(t, s, k, "meta", "one two")
	store(t, s, k, "", "")
	holds(t, s, k, "", "")
}

func TestNumbersOfWriters(t *testing.T) { // P7.1: from 1 on, never again
	s := open(t, disk.New(512, 512))
	for want := 1; want < 5; want++ {
		if _, e := s.Begin(api.Key{9}, make([]byte, api.MaxMeta+1)); e != api.ErrDocSize {
			t.Error(e)
		}
		w, e := s.Begin(api.Key{9}, make([]byte, api.MaxMeta))
		if e != api.OK || w != want {
			t.Error(w, e)
		}
		if w, e := s.Begin(api.Key{9}, nil); e != api.ErrDocOpen || w != 0 {
			t.Error(w, e)
		}
		if _, e := s.Begin(api.Key{9}, make([]byte, api.MaxMeta+1)); e != api.ErrDocSize { // named first
			t.Error(e)
		}
		if want%2 == 0 {
			must(t, s.Abort(w))
		} else {
			must(t, s.Close(w))
		}
	}
}

func TestAppendRefuses(t *testing.T) { // P7.1: the writer stays as it was
	s := open(t, disk.New(2000, 512))
	w, _ := s.Begin(api.Key{}, nil)
	if s.Append(w, make([]byte, api.MaxDoc+1)) != api.ErrDocSize {
		t.Error("too long")
	}
	must(t, s.Append(w, make([]byte, api.MaxDoc-2)))
	if s.Append(w, []byte("abc")) != api.ErrDocSize {
		t.Error("too long together")
	}
	must(t, s.Append(w, []byte("ab")))
	must(t, s.Close(w))
	holds(t, s, api.Key{}, "", string(make([]byte, api.MaxDoc-2))+"ab")
}

func TestAbort(t *testing.T) { // P7.1: k's document is as it was
	s := open(t, disk.New(512, 512))
	store(t, s, api.Key{}, "m", "old")
	w, _ := s.Begin(api.Key{}, nil)
	must(t, s.Append(w, []byte("new")))
	must(t, s.Abort(w))
	holds(t, s, api.Key{}, "m", "old")
}

func TestShorterDocumentBehindLonger(t *testing.T) { // P7.1
	d := disk.New(2000, 512)
	s := open(t, d)
	long := string(bytes.Repeat([]byte("l"), api.MaxDoc))
	store(t, s, api.Key{}, string(make([]byte, api.MaxMeta)), long)
	holds(t, s, api.Key{}, string(make([]byte, api.MaxMeta)), long)
	store(t, s, api.Key{}, "m", "short")
	holds(t, s, api.Key{}, "m", "short")
	must(t, s.Sync())
	v, _ := vol.Open(d)
	for part := 1; part < 40; part++ { // and nothing is left of it
		if _, _, e := v.Get(api.Key{}, part); e != api.ErrVolNone {
			t.Error(part, e)
		}
	}
}

func TestDelete(t *testing.T) { // P7.2: an open writer goes on
	s := open(t, disk.New(512, 512))
	store(t, s, api.Key{}, "m", "old")
	w, _ := s.Begin(api.Key{}, []byte("n"))
	must(t, s.Delete(api.Key{}))
	none(t, s, api.Key{})
	must(t, s.Delete(api.Key{}))
	must(t, s.Append(w, []byte("new")))
	must(t, s.Close(w))
	holds(t, s, api.Key{}, "n", "new")
}

func TestRoom(t *testing.T) { // P7.2
	for _, c := range [][2]int{{64, 128}, {256, 128}, {257, 128}, {1001, 511}, {8192, 4096}} {
		d := disk.New(c[0], c[1])
		s := open(t, d)
		v, _ := vol.Open(d)
		if 4*s.Room() < c[0]*c[1]-256*c[1] || s.Room() < 0 || 2*s.Room() > v.Room() {
			t.Errorf("%v: %d", c, s.Room())
		}
	}
}

func TestNothingForgottenBelowRoom(t *testing.T) { // P7.2
	for _, c := range []struct{ n, size, meta, body int }{
		{300, 128, 0, 0}, {600, 200, 10, 100}, {4000, 128, 8192, 40000}, {8192, 4096, 0, 0},
		{8192, 4096, 8192, 65536}, {8192, 4096, 0, 36864}, {8192, 4096, 0, 36825},
	} {
		s := open(t, disk.New(c.n, c.size))
		n := min(s.Room()/(c.meta+c.body+1024), 201)
		if n == 0 {
			t.Fatal("no room")
		}
		meta, body := string(make([]byte, c.meta)), string(make([]byte, c.body))
		for i := range 2*n + 3 {
			store(t, s, api.Key{byte(i), byte(i >> 8)}, meta, body)
		}
		for i := n + 3; i < 2*n+3; i++ {
			holds(t, s, api.Key{byte(i), byte(i >> 8)}, meta, body)
		}
	}
}

func TestAttachNext(t *testing.T) { // P7.3, P7.5
	s := open(t, disk.New(512, 512))
	k := api.Key{3}
	next := func(r int, want string, wantEnd bool) {
		t.Helper()
		b, end, e := s.Next(r)
		if e != api.OK || string(b) != want || end != wantEnd {
			t.Errorf("%q %v %v", b, end, e)
		}
	}
	done := func(r int) {
		t.Helper()
		if b, end, e := s.Next(r); e != api.ErrDocDone || b != nil || end {
			t.Errorf("%q %v %v", b, end, e)
		}
	}
	store(t, s, k, "", "not this")
	if r, m, e := s.Attach(k); e != api.ErrDocNone || r != 0 || m != nil {
		t.Error("attached to nothing")
	}
	w, _ := s.Begin(k, []byte("meta"))
	a, m, e := s.Attach(k)
	if e != api.OK || a != 1 || string(m) != "meta" {
		t.Error(a, e)
	}
	m[0] = 'x'
	next(a, "", false)
	must(t, s.Append(w, []byte("one")))
	b, m, _ := s.Attach(k)
	if b != 2 || string(m) != "meta" {
		t.Error(b)
	}
	next(a, "one", false)
	next(a, "", false)
	must(t, s.Append(w, []byte("two")))
	next(b, "onetwo", false)
	must(t, s.Append(w, []byte("three")))
	must(t, s.Close(w))
	w, _ = s.Begin(k, nil) // another one, which they don't read
	must(t, s.Append(w, []byte("other")))
	next(a, "twothree", true)
	done(a)
	next(b, "three", true)
	done(b)
	c, _, _ := s.Attach(k)
	if c != 3 {
		t.Error(c)
	}
	must(t, s.Abort(w))
	done(c) // at once, though it wasn't told anything
	done(c)
	for _, r := range []int{0, -1, 4} {
		done(r)
	}
	w, _ = s.Begin(k, nil)
	c, _, _ = s.Attach(k)
	must(t, s.Close(w))
	next(c, "", true)
	done(c)
}

func TestDown(t *testing.T) { // P7.1, P7.2, P7.4
	d := disk.New(512, 512)
	s := open(t, d)
	store(t, s, api.Key{}, "m", "old")
	w, _ := s.Begin(api.Key{}, nil)
	must(t, s.Append(w, make([]byte, 3000)))
	r, _, _ := s.Attach(api.Key{})
	d.Cut(0)
	if s.Down() || s.Close(w) != api.ErrDiskDead || !s.Down() {
		t.Error("close")
	}
	if b, end, e := s.Next(r); e != api.OK || len(b) != 3000 || end { // it isn't whole
		t.Error("told an end", e)
	}
	if s.Close(w) != api.ErrDiskDead || s.Delete(api.Key{}) != api.ErrDiskDead || s.Sync() != api.ErrDiskDead {
		t.Error("later calls")
	}
	if m, b, e := s.Read(api.Key{}); e != api.ErrDiskDead || m != nil || b != nil {
		t.Error("read", e)
	}
	d.Crash(0, 0)
	s = open(t, d)
	none(t, s, api.Key{})
	if s.Append(w, nil) != api.ErrDocDone {
		t.Error("an open writer is there yet")
	}
	if _, _, e := s.Next(r); e != api.ErrDocDone {
		t.Error("a reader is there yet")
	}
}

func TestMixedPartsAreNone(t *testing.T) { // P7.4: whole, or nothing
	d := disk.New(2000, 512)
	s := open(t, d)
	store(t, s, api.Key{1}, "m", string(bytes.Repeat([]byte("a"), 9000)))
	store(t, s, api.Key{2}, "m", string(bytes.Repeat([]byte("b"), 9000)))
	must(t, s.Sync())
	v, _ := vol.Open(d)
	for part := range 3 {
		b, last, _ := v.Get(api.Key{1}, part)
		if part == 1 {
			b, last, _ = v.Get(api.Key{2}, part)
		}
		must(t, v.Put(api.Key{3}, part, last, b))
	}
	for i, b := range []string{"", "short", string(bytes.Repeat([]byte{255}, 100)), string(make([]byte, 100))} {
		must(t, v.Put(api.Key{4, byte(i)}, 0, true, []byte(b)))
	}
	must(t, v.Put(api.Key{4, 4}, 0, false, make([]byte, 100))) // and no last part
	must(t, v.Sync())
	s = open(t, d)
	holds(t, s, api.Key{1}, "m", string(bytes.Repeat([]byte("a"), 9000)))
	none(t, s, api.Key{3})
	for i := range 5 {
		none(t, s, api.Key{4, byte(i)})
	}
}

// closing: one document that was closed.
type closing struct {
	k    api.Key
	body []byte
}

func TestLives(t *testing.T) { // P7.2, P7.4
	for seed := range int64(40) {
		r := rand.New(rand.NewSource(seed))
		c := [][2]int{{64, 128}, {300, 128}, {600, 512}, {1500, 256}}[seed%4]
		d := disk.New(c[0], c[1])
		s := open(t, d)
		var all []closing
		var ahead []int // bytes of all that was closed ahead of each
		total := 0
		now, sure, later := map[api.Key]int{}, map[api.Key]int{}, map[api.Key]bool{}
		gone := func(i int) bool { return total-ahead[i-1] > s.Room() }
		for range 400 {
			k := api.Key{byte(r.Intn(8))}
			switch x := r.Intn(20); {
			case x < 8:
				body := make([]byte, r.Intn(1+r.Intn(20000)))
				r.Read(body)
				w, _ := s.Begin(k, body[:len(body)/8])
				must(t, s.Append(w, body))
				all, ahead = append(all, closing{k, body}), append(ahead, total)
				total += len(body) + len(body)/8 + 1024
				later[k] = true
				if s.Close(w) == api.OK {
					now[k] = len(all)
				} else {
					must(t, s.Abort(w))
				}
			case x < 10:
				if s.Delete(k) == api.OK {
					now[k] = 0
				}
				later[k] = true
			case x < 12:
				if s.Sync() == api.OK {
					sure, later = map[api.Key]int{}, map[api.Key]bool{}
					for k, i := range now {
						sure[k] = i
					}
				}
			case x < 14:
				d.Cut(r.Intn(100))
			case x < 15:
				d.Crash(r.Uint64(), r.Uint64()&r.Uint64())
				s = open(t, d)
				for i := range 8 {
					k := api.Key{byte(i)}
					_, b, e := s.Read(k)
					if e == api.ErrDocNone {
						if sure[k] > 0 && !later[k] && !gone(sure[k]) {
							t.Fatal("what was sure is gone")
						}
						now[k] = 0
						continue
					}
					found := 0
					for j := max(sure[k], 1); j <= len(all); j++ {
						if all[j-1].k == k && bytes.Equal(all[j-1].body, b) {
							found = j
						}
					}
					if found == 0 || sure[k] == 0 && !later[k] {
						t.Fatal("not sure, nor later")
					}
					now[k] = found
				}
			}
			if s.Down() {
				continue
			}
			m, b, e := s.Read(k)
			i := now[k]
			if e == api.ErrDocNone && (i == 0 || gone(i)) {
				continue
			}
			if e != api.OK || i == 0 || !bytes.Equal(b, all[i-1].body) || !bytes.Equal(m, b[:len(b)/8]) {
				t.Fatalf("closing %d: %v", i, e)
			}
		}
	}
}
