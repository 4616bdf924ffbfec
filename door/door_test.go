package door

import (
	"math"
	"testing"

	"ambry/api"
	"ambry/cache"
	"ambry/disk"
	"ambry/head"
)

func get(l ...api.Field) api.Request {
	return api.Request{Method: "GET", Target: "/", Fields: append(l, api.Field{Name: "Host", Value: "h"})}
}

func TestTimes(t *testing.T) {
	for now, want := range map[int64]int64{-1: 0, math.MinInt64: 0, 5: 5, math.MaxInt64: api.MaxTime} {
		if Begins(now) != want {
			t.Error(now)
		}
	}
	if Later(5, 3) != 8 || Later(5, -3) != 5 || Later(5, math.MaxInt64) != api.MaxTime || Later(api.MaxTime, 1) != api.MaxTime || Later(0, math.MinInt64) != 0 {
		t.Error("later")
	}
}

func TestJoins(t *testing.T) {
	for _, c := range []struct {
		name, value string
		want        bool
	}{
		{"Accept", "a", true}, {"Cache-Control", "no-cache", false}, {"Cache-Control", "max-age=0, no-store", false}, {"Cache-Control", "max-age=0", true},
		{"Pragma", "no-cache", false}, {"authorization", "", false}, {"RANGE", "x", false},
	} {
		if Joins(get(api.Field{Name: c.name, Value: c.value})) != c.want {
			t.Error(c)
		}
	}
	if q := get(); !Joins(q) {
		t.Error("plain")
	} else if q.Method = "HEAD"; Joins(q) {
		t.Error("HEAD")
	}
}

func TestKeepAndRenew(t *testing.T) {
	c, _ := cache.Open(disk.New(2000, 256), 0)
	fresh := api.Response{Status: 200, Fields: []api.Field{{Name: "Cache-Control", Value: "max-age=5"}}}
	stays := func(want bool) {
		t.Helper()
		if _, use := c.Look(get(), 0); (use != api.UseMiss) != want {
			t.Error(use)
		}
	}
	is := func(method string, status, use int, wantKept, wantDropped bool) {
		t.Helper()
		q, r := get(), fresh
		q.Method, r.Status = method, status
		if kept, dropped := Keep(c, q, r, api.Times{}, use); kept != wantKept || dropped != wantDropped {
			t.Error(method, status, kept, dropped)
		}
	}
	is("GET", 200, api.UseMiss, true, false)
	stays(true)
	is("GET", 206, api.UseMiss, false, false)
	is("POST", 400, api.UseMiss, false, false)
	is("HEAD", 200, api.UseMiss, false, false)
	is("POST", 199, api.UseMiss, false, false)
	stays(true)
	is("POST", 399, api.UseMiss, false, true)
	stays(false)
	if _, ok := Renew(c, get(), api.Response{Status: 304}, api.Times{}); ok {
		t.Error("renewed nothing")
	}
	is("GET", 200, api.UseMiss, true, false)
	if a, ok := Renew(c, get(), api.Response{Status: 304}, api.Times{Came: 9}); !ok || a.T.Came != 9 {
		t.Error("not renewed")
	}
	other := api.Response{Status: 304, Fields: []api.Field{{Name: "Vary", Value: "*"}}}
	if a, ok := Renew(c, get(), other, api.Times{Came: 9}); !ok || a.R.Status != 200 || len(a.R.Fields) != 2 {
		t.Error("what isn't the request's any more is told", a)
	}
	stays(false)
	is("GET", 200, api.UseMiss, true, false)
	is("GET", 206, api.UseCheck, false, false)
	stays(false)
	is("GET", 200, api.UseMiss, true, false)
	is("DELETE", 200, api.UseMiss, false, true)
	stays(false)
}

func TestAged(t *testing.T) {
	a := api.Alt{T: api.Times{Asked: 5, Came: 5}, R: api.Response{Status: 200, Fields: []api.Field{{Name: "age", Value: "2"}, {Name: "A", Value: "b"}}, Body: []byte("x")}}
	r := Aged(a, 99)
	if v, _ := head.Get(r.Fields, "Age"); v != "96" || len(r.Fields) != 2 || r.Status != 200 {
		t.Error(r)
	}
	r.Body[0] = 'y'
	if string(a.R.Body) != "x" || a.R.Fields[0].Value != "2" {
		t.Error("shared")
	}
}
