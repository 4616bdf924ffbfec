package clone

import (
	"reflect"
	"testing"

	"ambry/api"
)

func TestCopiesShareNothing(t *testing.T) {
	make1 := func() (api.Request, api.Alt) {
		l := []api.Field{{Name: "A", Value: "b"}}
		return api.Request{Method: "GET", Target: "/", Fields: l, Body: []byte("q")},
			api.Alt{Fields: []api.Field{{Name: "C", Value: "d"}}, T: api.Times{Asked: 1, Came: 2},
				R: api.Response{Status: 200, Reason: "OK", Fields: []api.Field{{Name: "E", Value: "f"}}, Body: []byte("r")}}
	}
	q, a := make1()
	q2, a2 := Request(q), Alt(a)
	q.Fields[0].Name, q.Body[0], a.Fields[0].Name, a.R.Fields[0].Name, a.R.Body[0] = "x", 'x', "x", "x", 'x'
	wantQ, wantA := make1()
	if !reflect.DeepEqual(q2, wantQ) || !reflect.DeepEqual(a2, wantA) {
		t.Error("shared")
	}
}
