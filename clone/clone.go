// Package clone copies messages, so that what is answered or kept shares no
// memory with what was handed in.
package clone

import (
	"slices"

	"ambry/api"
)

// Request answers a copy of q.
func Request(q api.Request) api.Request {
	q.Fields = slices.Clone(q.Fields)
	q.Body = slices.Clone(q.Body)
	return q
}

// Response answers a copy of r.
func Response(r api.Response) api.Response {
	r.Fields = slices.Clone(r.Fields)
	r.Body = slices.Clone(r.Body)
	return r
}

// Alt answers a copy of a.
func Alt(a api.Alt) api.Alt {
	a.Fields = slices.Clone(a.Fields)
	a.R = Response(a.R)
	return a
}
