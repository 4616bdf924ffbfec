// Package door has what both doors, proxy and edge, do alike.
package door

import (
	"strconv"

	"ambry/api"
	"ambry/cache"
	"ambry/clone"
	"ambry/cond"
	"ambry/ctrl"
	"ambry/fresh"
	"ambry/head"
	"ambry/policy"
)

// Begins answers now as a time.
func Begins(now int64) int64 { return min(max(now, 0), api.MaxTime) }

// Later answers the time n seconds behind now.
func Later(now, n int64) int64 { return now + min(max(n, 0), api.MaxTime-now) }

// Joins tells whether q may wait for what another is answered: it asks for
// nothing that is for itself alone.
func Joins(q api.Request) bool {
	says := ctrl.Parse(q.Fields)
	_, secret := head.Get(q.Fields, "Authorization")
	_, part := head.Get(q.Fields, "Range")
	return q.Method == "GET" && !says.NoCache && !says.NoStore && !secret && !part
}

// Keep keeps the origin's answer to q, or drops what it makes wrong: whether
// it was kept, and whether a request that changes things dropped its address.
func Keep(c *cache.Cache, q api.Request, r api.Response, t api.Times, use int) (kept, dropped bool) {
	if policy.May(q, r) {
		kept = c.Put(q, r, t)
	} else if use == api.UseCheck {
		c.Drop(q)
	}
	if !policy.Safe(q.Method) && r.Status >= 200 && r.Status <= 399 {
		c.Drop(q)
		dropped = true
	}
	return kept, dropped
}

// Renew makes the alternate for q as new as a 304 tells, and answers it; whether
// there is one. It is looked for ahead: as new as it is then it may not be q's any more.
func Renew(c *cache.Cache, q api.Request, r api.Response, t api.Times) (api.Alt, bool) {
	a, _ := c.Look(q, t.Came)
	if !c.Update(q, r, t) {
		return api.Alt{}, false
	}
	return api.Alt{Fields: a.Fields, R: cond.Merge(a.R, r), T: t}, true
}

// Aged answers a stored response with its age.
func Aged(a api.Alt, now int64) api.Response {
	r := clone.Response(a.R)
	r.Fields = head.Set(r.Fields, "Age", strconv.FormatInt(fresh.Age(a.R, a.T, now), 10))
	return r
}
