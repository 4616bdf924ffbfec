package script

import (
	"slices"

	"ambry/alts"
	"ambry/api"
	"ambry/cond"
	"ambry/ctrl"
	"ambry/flow"
	"ambry/head"
	"ambry/http"
	"ambry/policy"
)

// model is the proxy of chapters 12 to 21 with a cache that forgets nothing.
type model struct {
	now   int64
	kept  map[api.Key][]api.Alt
	conns map[int]*line
	asked map[int]*question
	last  int
}

// line: a connection: its bytes, and the question it waits for.
type line struct {
	b     string
	waits *question
	own   bool
	q     api.Request
}

type question struct {
	x    int
	q    api.Request
	use  int
	at   int64
	line *line
}

func newModel(now int64) *model {
	return &model{now: now, kept: map[api.Key][]api.Alt{}, conns: map[int]*line{}, asked: map[int]*question{}}
}

func (m *model) do(e api.Event) []api.Out {
	switch e.Kind {
	case api.EventClient:
		if e.A < 0 || e.A > 63 {
			return nil
		}
		if m.conns[e.A] == nil {
			m.conns[e.A] = &line{}
		}
		m.conns[e.A].b += string(e.B)
		return m.goOn(e.A)
	case api.EventOrigin:
		if a := m.asked[e.A]; a != nil {
			return m.answered(a, e.B)
		}
	case api.EventLost:
		if a := m.asked[e.A]; a != nil {
			return m.over(a, flow.Error(502, flow.Closes(a.q)))
		}
	case api.EventGone:
		delete(m.conns, e.A)
	case api.EventTick:
		m.now = min(m.now+max(int64(e.A), 0), api.MaxTime)
	case api.EventCrash:
		m.conns, m.asked, m.last = map[int]*line{}, map[int]*question{}, 0
	}
	return nil
}

func (m *model) goOn(n int) (outs []api.Out) {
	l := m.conns[n]
	for l.waits == nil {
		q, size, e := http.Request([]byte(l.b))
		if e == api.ErrShort && len(l.b) <= 100000 {
			return outs
		}
		if e != api.OK {
			l.b = ""
			return append(outs, api.Out{To: n, B: flow.Error(400, true), Close: true})
		}
		l.b = l.b[size:]
		outs = append(outs, m.starts(n, q)...)
	}
	return outs
}

// starts begins an exchange of the line's request.
func (m *model) starts(n int, q api.Request) []api.Out {
	l := m.conns[n]
	var stored []api.Alt
	if q.Method == "GET" {
		stored = m.kept[policy.Key(q)]
	}
	i, use := alts.Select(stored, q, m.now)
	var a api.Alt
	if i >= 0 {
		a = stored[i]
	}
	says := ctrl.Parse(q.Fields)
	if use == api.UseMiss && q.Method == "GET" && !says.NoCache && !says.NoStore && head.All(q.Fields, "Authorization") == nil && head.All(q.Fields, "Range") == nil {
		for x := 1; x <= m.last; x++ {
			if o := m.asked[x]; o != nil && o.q.Method == "GET" && o.use == api.UseMiss && policy.Key(o.q) == policy.Key(q) {
				l.waits, l.own, l.q = o, false, q
				return nil
			}
		}
	}
	do, b := flow.Begin(q, a, use, m.now)
	if do == api.DoAsk {
		m.last++
		l.waits, l.own = &question{m.last, q, use, m.now, l}, true
		m.asked[m.last] = l.waits
		return []api.Out{{Origin: true, To: m.last, B: b}}
	}
	if flow.Closes(q) {
		l.b = ""
	}
	return []api.Out{{To: n, B: b, Close: flow.Closes(q)}}
}

func (m *model) answered(a *question, b []byte) []api.Out {
	r, e := http.Response(b, a.q.Method)
	fail := flow.Error(502, flow.Closes(a.q))
	if e != api.OK {
		return m.over(a, fail)
	}
	k, t := policy.Key(a.q), api.Times{Asked: a.at, Came: m.now}
	if r.Status == 304 && a.use == api.UseCheck {
		l := m.kept[k]
		i, _ := alts.Select(l, a.q, m.now)
		if i < 0 {
			return m.over(a, fail)
		}
		n := api.Alt{Fields: l[i].Fields, R: cond.Merge(l[i].R, r), T: t}
		m.keep(k, append(slices.Delete(slices.Clone(l), i, i+1), n))
		return m.over(a, flow.Cached(a.q, n, m.now))
	}
	if policy.May(a.q, r) {
		m.keep(k, alts.Add(m.kept[k], alts.Make(a.q, r, t)))
	} else if a.use == api.UseCheck {
		delete(m.kept, k)
	}
	if !policy.Safe(a.q.Method) && r.Status >= 200 && r.Status <= 399 {
		delete(m.kept, k)
	}
	return m.over(a, flow.Answer(a.q, r))
}

func (m *model) keep(k api.Key, l []api.Alt) {
	m.kept[k] = l
	if len(alts.Bytes(l)) > api.MaxDoc {
		delete(m.kept, k)
	}
}

// over ends a question: its line is told, then those begin anew that waited, too.
func (m *model) over(a *question, b []byte) (outs []api.Out) {
	delete(m.asked, a.x)
	for n := range 64 {
		if l := m.conns[n]; l == a.line && l.waits == a && l.own {
			l.waits = nil
			outs = append(outs, api.Out{To: n, B: b, Close: flow.Closes(a.q)})
			if flow.Closes(a.q) {
				l.b = ""
			}
			outs = append(outs, m.goOn(n)...)
		}
	}
	for n := range 64 {
		if l := m.conns[n]; l != nil && l.waits == a {
			l.waits = nil
			outs = append(outs, m.starts(n, l.q)...)
			outs = append(outs, m.goOn(n)...)
		}
	}
	return outs
}
