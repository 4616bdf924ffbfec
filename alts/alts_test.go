package alts

import (
	"bytes"
	"math"
	"reflect"
	"strconv"
	"testing"

	"ambry/api"
	"ambry/code"
	"ambry/date"
)

// of answers fields of names and values.
func of(l ...string) []api.Field {
	var f []api.Field
	for i := 0; i < len(l); i += 2 {
		f = append(f, api.Field{Name: l[i], Value: l[i+1]})
	}
	return f
}

func ask(l ...string) api.Request { return api.Request{Method: "GET", Target: "/", Fields: of(l...)} }

func reply(body string, l ...string) api.Response {
	return api.Response{Status: 200, Reason: "OK", Fields: of(l...), Body: []byte(body)}
}

func bodies(l []api.Alt) string {
	s := ""
	for _, a := range l {
		s += string(a.R.Body)
	}
	return s
}

func TestMake(t *testing.T) { // P18.1
	q := ask("Accept", "a,  b", "X", "y")
	r := reply("body", "Vary", "accept", "Connection", "Z", "Z", "1", "A", "b")
	got := Make(q, r, api.Times{Asked: -3, Came: 7})
	want := api.Alt{Fields: of("accept", "a, b"), R: reply("body", "Vary", "accept", "A", "b"), T: api.Times{Asked: -3, Came: 7}}
	if !reflect.DeepEqual(got, want) {
		t.Errorf("%+v", got)
	}
	got.R.Body[0], got.R.Fields[0].Name = 'x', "x"
	if string(r.Body) != "body" || r.Fields[0].Name != "Vary" {
		t.Error("shared")
	}
}

func TestAdd(t *testing.T) { // P18.1, and the example
	add := func(l []api.Alt, q api.Request, r api.Response) []api.Alt { return Add(l, Make(q, r, api.Times{})) }
	l := add(nil, ask("Accept", "a"), reply("1", "Vary", "Accept"))
	l = add(l, ask("Accept", "b"), reply("2", "Vary", "Accept"))
	if bodies(l) != "12" {
		t.Fatal(bodies(l))
	}
	if got := add(l, ask("Accept", "a"), reply("3", "Vary", "Accept")); bodies(got) != "23" {
		t.Error(bodies(got))
	}
	if got := add(l, ask(), reply("3", "Vary", "Accept")); bodies(got) != "123" { // none isn't a nor b
		t.Error(bodies(got))
	}
	if got := add(l, ask("Accept", "z"), reply("3")); bodies(got) != "3" { // it selects all
		t.Error(bodies(got))
	}
	one := add(nil, ask("Accept", "z"), reply("0"))
	if got := add(one, ask("Accept", "a"), reply("1", "Vary", "Accept")); bodies(got) != "1" { // the elder one selects all
		t.Error(bodies(got))
	}
	two := add(nil, ask("A", "1"), reply("1", "Vary", "A"))
	if got := add(two, ask("B", "1"), reply("2", "Vary", "B")); bodies(got) != "12" {
		t.Error(bodies(got))
	}
	got := Add(l, l[0])
	got[0].R.Body[0] = 'x'
	got[1].Fields[0].Name = "x"
	if bodies(l) != "12" || l[0].Fields[0].Name != "accept" {
		t.Error("shared")
	}
}

func TestAddKeepsTheLast(t *testing.T) { // P18.1
	var l []api.Alt
	for i := range api.MaxAlts + 3 {
		l = Add(l, Make(ask("A", strconv.Itoa(i)), reply(string(rune('a'+i)), "Vary", "A"), api.Times{}))
	}
	if bodies(l) != "defghijk" {
		t.Error(bodies(l))
	}
}

func TestSelect(t *testing.T) { // P18.2, P18.4
	d := date.Text
	alt := func(vary, a string, l ...string) api.Alt {
		r := reply("", append(l, "Vary", vary)...)
		return Make(ask("A", a), r, api.Times{Asked: 100, Came: 100})
	}
	l := []api.Alt{
		alt("A", "1", "Date", d(50), "Cache-Control", "max-age=100"),
		alt("A", "2", "Date", d(90), "Cache-Control", "max-age=100"),
		alt("B", "1", "Date", d(90), "Cache-Control", "max-age=5"),
		alt("A", "1", "Date", d(90), "Cache-Control", "max-age=30"),
		alt("A", "1", "Date", "x", "Cache-Control", "max-age=300"),
		alt("*", "1", "Date", d(99), "Cache-Control", "max-age=300"),
	}
	for i, c := range []struct {
		l    []api.Alt
		q    api.Request
		now  int64
		want int
		use  int
	}{
		{l, ask("A", "1"), 100, 3, api.UseServe},
		{l, ask("A", "1"), 130, 3, api.UseCheck},
		{l, ask("A", "1", "Cache-Control", "only-if-cached"), 130, 3, api.UseNever},
		{l, ask("A", "1", "Cache-Control", "only-if-cached"), 100, 3, api.UseServe},
		{l, ask("A", "1", "Cache-Control", "max-stale"), 900, 3, api.UseServe},
		{l, ask("A", "1", "Cache-Control", "no-cache"), 100, 3, api.UseCheck},
		{l[:2], ask("A", "1"), 100, 0, api.UseServe},
		{l, ask("A", "3"), 100, 2, api.UseCheck},
		{l, ask("A", "3", "B", "1"), 100, -1, api.UseMiss},
		{l, ask("A", "3", "B", "1", "Cache-Control", "only-if-cached"), 100, -1, api.UseNever},
		{l[4:], ask("A", "1"), 399, 0, api.UseServe},
		{l[4:], ask("A", "1"), 400, 0, api.UseCheck},
		{l[5:], ask("A", "1"), 100, -1, api.UseMiss},
		{nil, ask(), 0, -1, api.UseMiss},
	} {
		if got, use := Select(c.l, c.q, c.now); got != c.want || use != c.use {
			t.Errorf("%d: %d %d", i, got, use)
		}
	}
}

func TestBytesOpen(t *testing.T) { // P18.3
	l := []api.Alt{
		Make(ask("A", "1"), reply("body", "Vary", "A", "B", "c"), api.Times{Asked: 5, Came: api.MaxTime}),
		{},
		{R: api.Response{Status: 999, Reason: "No \xff"}, T: api.Times{Came: 1}},
	}
	got, e := Open(Bytes(l))
	if e != api.OK || len(got) != 3 || !bytes.Equal(Bytes(got), Bytes(l)) || !reflect.DeepEqual(got[0], l[0]) || got[2].R.Reason != "No \xff" || got[2].T.Came != 1 {
		t.Errorf("%+v %v", got, e)
	}
	w := code.NewWriter()
	w.Num(1)
	w.Fields(of("a", "1"))
	w.Num(0)
	w.Text([]byte("OK"))
	w.Fields(of("C", "d"))
	w.Text([]byte("b"))
	w.Num(0)
	w.Num(300)
	one := api.Alt{Fields: of("a", "1"), R: api.Response{Status: -5, Reason: "OK", Fields: of("C", "d"), Body: []byte("b")}, T: api.Times{Asked: -9, Came: 300}}
	if !bytes.Equal(Bytes([]api.Alt{one}), w.Bytes()) {
		t.Errorf("%x", Bytes([]api.Alt{one}))
	}
	for _, n := range []int{0, 1, 50} { // as short as can be
		if got, e := Open(Bytes(make([]api.Alt, n))); e != api.OK || len(got) != n {
			t.Error(n, e)
		}
	}
	if got, e := Open(Bytes([]api.Alt{{T: api.Times{Asked: api.MaxTime, Came: api.MaxTime}}})); e != api.OK || got[0].T.Asked != api.MaxTime {
		t.Error("MaxTime", e)
	}
}

func TestOpenRefuses(t *testing.T) { // P18.3
	good := Bytes([]api.Alt{Make(ask("A", "1"), reply("b", "Vary", "A"), api.Times{Asked: 5, Came: 6})})
	for n := range good {
		if l, e := Open(good[:n]); e != api.ErrCode || l != nil {
			t.Errorf("%d bytes", n)
		}
	}
	for name, l := range map[string][]api.Alt{
		"status": {{R: api.Response{Status: 1000}}},
		"asked":  {{T: api.Times{Asked: api.MaxTime + 1}}},
		"came":   {{T: api.Times{Came: math.MaxInt64}}},
	} {
		if got, e := Open(Bytes(l)); e != api.ErrCode || got != nil {
			t.Error(name)
		}
	}
	w := code.NewWriter()
	w.Num(math.MaxUint64)
	for _, b := range [][]byte{append(bytes.Clone(good), 0), w.Bytes(), {2, 0, 0, 0, 0, 0, 0, 0}, {0x80, 0}} {
		if got, e := Open(b); e != api.ErrCode || got != nil {
			t.Errorf("%x", b)
		}
	}
}

func TestAnswersShareNothing(t *testing.T) {
	b := Bytes([]api.Alt{{R: reply("body")}})
	l, _ := Open(b)
	clear(b)
	if bodies(l) != "body" {
		t.Error("shared")
	}
}
