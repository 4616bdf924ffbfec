package cache

import (
	"math/rand"
	"reflect"
	"slices"
	"strconv"
	"testing"

	"ambry/alts"
	"ambry/api"
	"ambry/cond"
	"ambry/date"
	"ambry/disk"
	"ambry/doc"
	"ambry/policy"
)

// of answers fields of names and values.
func of(l ...string) []api.Field {
	var f []api.Field
	for i := 0; i < len(l); i += 2 {
		f = append(f, api.Field{Name: l[i], Value: l[i+1]})
	}
	return f
}

func get(target string, l ...string) api.Request {
	return api.Request{Method: "GET", Target: target, Fields: of(append(l, "Host", "h")...)}
}

func reply(body string, l ...string) api.Response {
	return api.Response{Status: 200, Reason: "OK", Fields: of(l...), Body: []byte(body)}
}

func open(t *testing.T, d *disk.Disk, memory int) *Cache {
	t.Helper()
	c, e := Open(d, memory)
	if e != api.OK || c == nil {
		t.Fatal(e)
	}
	return c
}

func told(t *testing.T, c *Cache, q api.Request, now int64, body string, use int) {
	t.Helper()
	if a, u := c.Look(q, now); u != use || string(a.R.Body) != body {
		t.Errorf("%s: %q %d", q.Target, a.R.Body, u)
	}
}

func TestOpen(t *testing.T) { // P19.1
	if c, e := Open(disk.New(10, 64), 0); e != api.ErrVolForm || c != nil {
		t.Error(e)
	}
	d := disk.New(2000, 256)
	c := open(t, d, 1000)
	s, _ := doc.Open(d)
	if c.Room() != s.Room() || c.Room() <= 0 {
		t.Error(c.Room())
	}
}

func TestKeptAsAlternates(t *testing.T) { // P19.1: a document of alts.Bytes under policy.Key
	d := disk.New(2000, 256)
	c := open(t, d, 0)
	q, r := get("/a", "A", "1"), reply("body", "Vary", "A", "Connection", "close")
	if !c.Put(q, r, api.Times{Asked: 1, Came: 2}) || c.Sync() != api.OK {
		t.Fatal("put")
	}
	s, _ := doc.Open(d)
	_, b, e := s.Read(policy.Key(q))
	l, e2 := alts.Open(b)
	if e != api.OK || e2 != api.OK || len(l) != 1 || !reflect.DeepEqual(l[0], alts.Make(q, r, api.Times{Asked: 1, Came: 2})) {
		t.Errorf("%+v %v %v", l, e, e2)
	}
}

func TestPutLook(t *testing.T) { // P19.2, P19.4, and the example
	for _, memory := range []int{-1, 0, 1 << 20} {
		c := open(t, disk.New(2000, 256), memory)
		q := get("/a", "A", "1")
		told(t, c, q, 10, "", api.UseMiss)
		told(t, c, get("/a", "Cache-Control", "only-if-cached"), 10, "", api.UseNever)
		if !c.Put(q, reply("one", "Vary", "A", "Cache-Control", "max-age=5"), api.Times{Asked: 10, Came: 10}) {
			t.Fatal("put")
		}
		told(t, c, q, 14, "one", api.UseServe)
		told(t, c, q, 15, "one", api.UseCheck)
		told(t, c, get("/a", "A", "1", "Cache-Control", "only-if-cached"), 15, "one", api.UseNever)
		told(t, c, get("/a"), 10, "", api.UseMiss)
		told(t, c, get("/b", "A", "1"), 10, "", api.UseMiss)
		c.Put(get("/a"), reply("two", "Vary", "A", "Cache-Control", "max-age=5"), api.Times{})
		told(t, c, q, 14, "one", api.UseServe)
		told(t, c, get("/a"), 4, "two", api.UseServe)
		q.Method = "HEAD"
		told(t, c, q, 14, "", api.UseMiss)
		q.Fields = of("Host", "h", "Cache-Control", "only-if-cached")
		told(t, c, q, 14, "", api.UseNever)
	}
}

func TestPutRefuses(t *testing.T) { // P19.2
	c := open(t, disk.New(2000, 256), 0)
	if c.Put(get("/a"), reply("x", "Cache-Control", "no-store"), api.Times{}) {
		t.Error("may not be kept")
	}
	told(t, c, get("/a"), 0, "", api.UseMiss)
	big := reply(string(make([]byte, 40000)), "Vary", "A", "Cache-Control", "max-age=9")
	if !c.Put(get("/a", "A", "1"), big, api.Times{}) || c.Put(get("/a", "A", "2"), big, api.Times{}) {
		t.Error("too long together")
	}
	told(t, c, get("/a", "A", "1"), 0, "", api.UseMiss) // the address has none
	told(t, c, get("/a", "A", "2"), 0, "", api.UseMiss)
}

func TestAsLongAsADocument(t *testing.T) { // P19.2: at MaxDoc, and one past it
	c := open(t, disk.New(4000, 256), 0)
	r := reply("")
	long := func(n int) api.Response {
		r.Fields = of("Expires", "0", "X", string(make([]byte, n)))
		return r
	}
	n := 60000
	for len(alts.Bytes([]api.Alt{alts.Make(get("/a"), long(n), api.Times{})})) < api.MaxDoc {
		n++
	}
	if !c.Put(get("/a"), long(n), api.Times{}) || c.Put(get("/a"), long(n+1), api.Times{}) {
		t.Error("put")
	}
}

// stored answers the alternates that lie on the disk.
func stored(d *disk.Disk, c *Cache, q api.Request) []api.Alt {
	c.Sync()
	s, _ := doc.Open(d)
	_, b, _ := s.Read(policy.Key(q))
	l, _ := alts.Open(b)
	return l
}

func TestUpdate(t *testing.T) { // P19.2
	for _, memory := range []int{0, 1 << 20} {
		d := disk.New(2000, 256)
		c := open(t, d, memory)
		for i := range 3 {
			a := strconv.Itoa(i)
			c.Put(get("/a", "A", a), reply(a, "Vary", "A", "ETag", `"x"`, "Cache-Control", "max-age=5"), api.Times{})
		}
		newer := api.Response{Status: 304, Fields: of("Cache-Control", "max-age=7")}
		q := get("/a", "A", "1")
		if !c.Update(q, newer, api.Times{Asked: 20, Came: 21}) {
			t.Fatal("update")
		}
		got, use := c.Look(q, 26)
		want := cond.Merge(reply("1", "Vary", "A", "ETag", `"x"`, "Cache-Control", "max-age=5"), newer)
		if use != api.UseServe || !reflect.DeepEqual(got, api.Alt{Fields: of("a", "1"), R: want, T: api.Times{Asked: 20, Came: 21}}) {
			t.Errorf("%+v %d", got, use)
		}
		if l := stored(d, c, q); len(l) != 3 || string(l[2].R.Body) != "1" {
			t.Error("not at the end")
		}
		told(t, c, get("/a", "A", "0"), 4, "0", api.UseServe)
		if c.Update(get("/a"), newer, api.Times{}) || c.Update(get("/b", "A", "1"), newer, api.Times{}) || c.Update(q, reply("x"), api.Times{}) {
			t.Error("update of nothing, or by no 304")
		}
		long := api.Response{Status: 304}
		for range 2 {
			long.Fields = append(long.Fields, of("X", string(make([]byte, 40000)))...)
		}
		if c.Update(q, long, api.Times{}) {
			t.Error("too long")
		}
	}
}

func TestDrop(t *testing.T) { // P19.2
	for _, memory := range []int{0, 1 << 20} {
		c := open(t, disk.New(2000, 256), memory)
		c.Put(get("/a"), reply("1", "Cache-Control", "max-age=5"), api.Times{})
		c.Put(get("/b"), reply("2", "Cache-Control", "max-age=5"), api.Times{})
		post := get("/a")
		post.Method = "POST"
		c.Drop(post)
		told(t, c, get("/a"), 0, "", api.UseMiss)
		told(t, c, get("/b"), 0, "2", api.UseServe)
	}
}

// wipe writes other bytes on the whole disk, under the cache.
func wipe(d *disk.Disk) {
	for i := range d.Sectors() {
		d.Write(i, make([]byte, d.Size()))
	}
}

func TestMemoryIsAskedFirst(t *testing.T) { // P19.1
	for memory, want := range map[int]string{1 << 20: "1", 64: "", 0: ""} {
		d := disk.New(2000, 256)
		c := open(t, d, memory)
		c.Put(get("/a"), reply("1", "Cache-Control", "max-age=5"), api.Times{})
		c.Put(get("/b"), reply(string(make([]byte, 2000))), api.Times{}) // so that the first isn't in the tail of the volume
		wipe(d)
		use := api.UseServe
		if want == "" {
			use = api.UseMiss
		}
		told(t, c, get("/a"), 0, want, use)
	}
}

func TestReadIntoMemory(t *testing.T) { // P19.1
	d := disk.New(2000, 256)
	c := open(t, d, 0)
	c.Put(get("/a"), reply("1", "Cache-Control", "max-age=5"), api.Times{})
	c.Put(get("/b"), reply(string(make([]byte, 2000))), api.Times{})
	c.Sync()
	c = open(t, d, 1<<20)
	told(t, c, get("/a"), 0, "1", api.UseServe)
	wipe(d)
	told(t, c, get("/a"), 0, "1", api.UseServe)
}

func TestDown(t *testing.T) { // P19.2, P19.3, P21.6: with nothing kept
	d := disk.New(2000, 256)
	c := open(t, d, 1<<20)
	c.Put(get("/a"), reply("1", "Cache-Control", "max-age=5"), api.Times{})
	if c.Sync() != api.OK {
		t.Fatal("sync")
	}
	c.Put(get("/a"), reply("2", "Cache-Control", "max-age=5"), api.Times{})
	d.Cut(0)
	if c.Down() || c.Sync() != api.ErrDiskDead || !c.Down() {
		t.Error("sync")
	}
	told(t, c, get("/a"), 0, "", api.UseMiss)
	told(t, c, get("/a", "Cache-Control", "only-if-cached"), 0, "", api.UseNever)
	if c.Put(get("/a"), reply("3", "Cache-Control", "max-age=5"), api.Times{}) || c.Update(get("/a"), api.Response{Status: 304}, api.Times{}) {
		t.Error("kept")
	}
	c.Drop(get("/a"))
	d.Crash(0, 0)
	c = open(t, d, 1<<20)
	told(t, c, get("/a"), 0, "1", api.UseServe)
	d.Cut(0)
	if c.Put(get("/a"), reply(string(make([]byte, 50000)), "Cache-Control", "max-age=5"), api.Times{}) || !c.Down() {
		t.Error("put without power")
	}
}

func TestAnswersShareNothing(t *testing.T) {
	c := open(t, disk.New(2000, 256), 1<<20)
	r := reply("body", "Cache-Control", "max-age=5")
	c.Put(get("/a"), r, api.Times{})
	r.Body[0], r.Fields[0].Value = 'x', "x"
	a, _ := c.Look(get("/a"), 0)
	a.R.Body[0], a.R.Fields[0].Value = 'x', "x"
	told(t, c, get("/a"), 0, "body", api.UseServe)
}

func TestAgainstModel(t *testing.T) { // P19.2 to P19.4: where there is room nothing is forgotten, memory or not
	for seed := range int64(8) {
		r := rand.New(rand.NewSource(seed))
		d := disk.New(4000, 512)
		c := open(t, d, []int{0, 3000, 1 << 20}[seed%3])
		kept := map[string][]api.Alt{}
		for step := range 600 {
			target := "/" + strconv.Itoa(r.Intn(6))
			q := get(target, "A", strconv.Itoa(r.Intn(4)))
			now := int64(step)
			vary := []string{"A", "", "B", "A, B"}[r.Intn(4)]
			res := reply(strconv.Itoa(step), "Vary", vary, "Date", date.Text(int64(r.Intn(step+1))), "Cache-Control", "max-age="+strconv.Itoa(r.Intn(100)))
			at := api.Times{Asked: now, Came: now}
			l := kept[target]
			i, use := alts.Select(l, q, now)
			switch r.Intn(8) {
			case 0, 1:
				if !c.Put(q, res, at) {
					t.Fatal("put")
				}
				kept[target] = alts.Add(l, alts.Make(q, res, at))
			case 2:
				if c.Update(q, api.Response{Status: 304, Fields: res.Fields[1:]}, at) != (i >= 0) {
					t.Fatal("update")
				}
				if i >= 0 {
					a := api.Alt{Fields: l[i].Fields, R: cond.Merge(l[i].R, api.Response{Fields: res.Fields[1:]}), T: at}
					kept[target] = append(slices.Delete(slices.Clone(l), i, i+1), a)
				}
			case 3:
				if r.Intn(4) == 0 {
					c.Drop(q)
					delete(kept, target)
				}
			case 4:
				c.Sync()
				if r.Intn(4) == 0 {
					d.Crash(r.Uint64(), r.Uint64())
					c = open(t, d, []int{0, 3000, 1 << 20}[seed%3])
				}
			default:
				a, u := c.Look(q, now)
				if u != use || i >= 0 && !reflect.DeepEqual(a, l[i]) || i < 0 && !reflect.DeepEqual(a, api.Alt{}) {
					t.Fatalf("%+v %d, %d", a, u, use)
				}
			}
		}
	}
}
