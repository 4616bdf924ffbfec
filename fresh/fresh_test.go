package fresh

import (
	"math"
	"slices"
	"testing"

	"ambry/api"
	"ambry/ctrl"
	"ambry/date"
)

// of answers a response of names and values.
func of(status int, l ...string) api.Response {
	r := api.Response{Status: status}
	for i := 0; i < len(l); i += 2 {
		r.Fields = append(r.Fields, api.Field{Name: l[i], Value: l[i+1]})
	}
	return r
}

func TestLifetime(t *testing.T) { // P14.1
	d := date.Text
	for i, c := range []struct {
		r    api.Response
		want int64
	}{
		{of(200), 0},
		{of(200, "cache-control", "max-age=5"), 5},
		{of(200, "Cache-Control", "max-age=5, s-maxage=3"), 3},
		{of(200, "Cache-Control", "max-age=5, s-maxage=x"), 0},
		{of(200, "Cache-Control", "max-age=0", "Expires", d(900), "Date", d(100)), 0},
		{of(200, "Cache-Control", "max-age=99999999999"), api.MaxAge},
		{of(200, "Expires", d(900), "Date", d(100)), 800},
		{of(200, "Expires", d(100), "Date", d(900)), 0},
		{of(200, "Expires", d(900)), 0},
		{of(200, "Expires", "0", "Date", d(100), "Last-Modified", d(0)), 0},
		{of(200, "Expires", d(900), "Expires", "x", "Date", d(100), "Date", d(0)), 800},
		{of(200, "Expires", d(api.MaxTime), "Date", d(0)), api.MaxAge},
		{of(200, "Expires", d(900), "Date", "soon", "Last-Modified", d(0)), 0},
		{of(200, "Last-Modified", d(0), "Date", d(1009)), 100},
		{of(200, "Last-Modified", d(1000), "Date", d(0)), 0},
		{of(200, "Last-Modified", d(0), "Date", d(864009)), 86400},
		{of(200, "Last-Modified", d(0), "Date", d(api.MaxTime)), 86400},
		{of(200, "Last-Modified", d(0)), 0},
		{of(200, "Last-Modified", "x", "Date", d(1009)), 0},
		{of(302, "Last-Modified", d(0), "Date", d(1009)), 0},
		{of(302, "Last-Modified", d(0), "Date", d(1009), "Cache-Control", "public"), 100},
	} {
		if got := Lifetime(c.r); got != c.want {
			t.Errorf("%d: %d", i, got)
		}
	}
}

func TestAge(t *testing.T) { // P14.2
	d := date.Text
	for i, c := range []struct {
		r                api.Response
		asked, came, now int64
		want             int64
	}{
		{of(200), 0, 0, 0, 0},
		{of(200), 100, 103, 110, 10},
		{of(200, "Date", d(90)), 100, 103, 110, 20},
		{of(200, "Date", d(200)), 100, 103, 110, 10},
		{of(200, "Date", "x"), 100, 103, 110, 10},
		{of(200, "Age", "50"), 100, 103, 110, 60},
		{of(200, "Age", "5", "Date", d(90)), 100, 103, 110, 20},
		{of(200, "Age", "-5"), 100, 103, 110, 10},
		{of(200, "Age", "5, 6"), 100, 103, 110, 10},
		{of(200, "Age", "5", "Age", "70"), 100, 103, 110, 15},
		{of(200), 110, 103, 100, 0},
		{of(200, "Age", "99999999999"), 0, 0, 5, api.MaxAge},
		{of(200), 0, 0, math.MaxInt64, api.MaxAge},
		{of(200), math.MinInt64, -5, -1, 0},
		{of(200, "Date", d(0)), -5, -5, -1, 0},
		{of(200, "Date", d(200)), 100, 100, 110, 10},
		{of(200), math.MaxInt64, math.MaxInt64, math.MaxInt64, 0},
		{of(200), 0, math.MaxInt64, math.MinInt64, api.MaxAge},
		{of(200, "Date", d(api.MaxTime-3)), math.MaxInt64, math.MaxInt64, math.MaxInt64, 3},
	} {
		if got := Age(c.r, api.Times{Asked: c.asked, Came: c.came}, c.now); got != c.want {
			t.Errorf("%d: %d", i, got)
		}
	}
}

func TestHeuristic(t *testing.T) { // P14.3
	want := []int{200, 203, 204, 300, 301, 308, 404, 405, 410, 414, 501}
	for status := -5; status < 1000; status++ {
		if Heuristic(status) != slices.Contains(want, status) {
			t.Error(status)
		}
	}
}

func TestServes(t *testing.T) { // P14.4, P14.5, and the example
	for i, c := range []struct {
		q, r string
		age  int64
		want bool
	}{
		{"", "max-age=5", 4, true}, {"", "max-age=5", 5, false},
		{"no-cache", "max-age=5", 0, false}, {"", "max-age=5, no-cache", 0, false}, {"no-cache, max-stale", "max-age=5", 9, false},
		{"max-age=3", "max-age=5", 3, true}, {"max-age=3", "max-age=5", 4, false}, {"max-age=3, max-stale", "max-age=2", 4, false},
		{"min-fresh=2", "max-age=5", 3, true}, {"min-fresh=2", "max-age=5", 4, false}, {"min-fresh=0", "max-age=5", 4, true},
		{"max-stale", "max-age=5", 500, true}, {"max-stale=3", "max-age=5", 8, true}, {"max-stale=3", "max-age=5", 9, false},
		{"max-stale=0", "max-age=5", 5, true}, {"max-stale=0", "max-age=5", 6, false}, {"max-stale, max-stale=1", "max-age=5", 99, true},
		{"max-stale", "max-age=5, must-revalidate", 5, false}, {"max-stale", "max-age=5, must-revalidate", 4, true},
		{"max-age=0", "max-age=5", 0, true}, {"max-age=0", "max-age=5", 1, false}, {"max-stale", "s-maxage=0", 0, false},
		{"max-stale", "max-age=5, proxy-revalidate", 5, false}, {"max-stale", "s-maxage=5", 5, false}, {"max-stale", "s-maxage=5", 4, true},
		{"max-stale, min-fresh=0", "max-age=5", 5, false}, {"max-stale=9, min-fresh=1", "max-age=5", 6, false},
		{"max-stale, max-age=8", "max-age=5", 8, true}, {"only-if-cached", "max-age=5", 4, true}, {"", "", 0, false}, {"max-stale", "", 0, true},
	} {
		q := ctrl.Parse([]api.Field{{Name: "Cache-Control", Value: c.q}})
		if got := Serves(q, of(200, "Cache-Control", c.r), api.Times{Asked: 100, Came: 100}, 100+c.age); got != c.want {
			t.Errorf("%d: %v", i, c)
		}
	}
}
