package stage

import (
	"net/url"
	"slices"
	"strconv"
	"strings"

	"ambry/acl"
	"ambry/alts"
	"ambry/api"
	"ambry/cmd"
	"ambry/cond"
	"ambry/conf"
	"ambry/flow"
	"ambry/fresh"
	"ambry/head"
	"ambry/http"
	"ambry/line"
	"ambry/norm"
	"ambry/part"
	"ambry/policy"
	"ambry/stat"
)

// model is the edge of chapters 23 to 31 with a cache that forgets nothing.
type model struct {
	now   int64
	conf  api.Conf
	kept  map[api.Key][]api.Alt
	asked map[int]*question
	last  int
	log   []api.Line
	stat  *stat.Stat
	known [][2]string
}

type question struct {
	q, p api.Request
	use  int
	at   int64
}

func newModel(now int64, text string) *model {
	c, _, _ := conf.Parse(text)
	return &model{now: now, conf: c, kept: map[api.Key][]api.Alt{}, asked: map[int]*question{}, stat: stat.New()}
}

// crash: all is new, but what is kept.
func (m *model) crash() {
	m.asked, m.last, m.log, m.stat, m.known = map[int]*question{}, 0, nil, stat.New(), nil
}

func (m *model) note(how int, q api.Request, b []byte) []byte {
	r, _ := http.Response(b, q.Method)
	host, _ := head.Get(q.Fields, "Host")
	m.log = append(m.log, api.Line{Time: m.now, How: how, Method: q.Method, Host: norm.Host(host), Target: q.Target, Status: r.Status, Size: len(r.Body)})
	m.log = m.log[max(len(m.log)-m.conf.Log, 0):]
	m.stat.Add(how, r.Status, len(r.Body))
	return b
}

func (m *model) ask(b []byte) (int, []byte) {
	q, n, e := http.Request(b)
	if e != api.OK || n < len(b) {
		return 0, m.note(api.HowError, api.Request{}, flow.Error(400, true))
	}
	closes := flow.Closes(q)
	target, ok := norm.Target(q.Target)
	if !ok {
		return 0, m.note(api.HowError, q, flow.Error(400, closes))
	}
	q.Target = target
	i := slices.IndexFunc(q.Fields, func(f api.Field) bool { return head.Same(f.Name, "Host") })
	q.Fields[i].Value = norm.Host(q.Fields[i].Value)
	if in, _ := acl.Check(m.conf.Rules, q); !in {
		return 0, m.note(api.HowDeny, q, flow.Error(403, closes))
	}
	if q.Fields[i].Value == norm.Host(m.conf.Console) {
		return 0, m.note(api.HowConsole, q, m.console(q))
	}
	p := q
	if m.conf.Ranges && q.Method == "GET" && len(head.All(q.Fields, "Range")) > 0 {
		p = part.Strip(q)
	}
	var l []api.Alt
	if p.Method == "GET" {
		l = m.kept[policy.Key(p)]
	}
	n, use := alts.Select(l, p, m.now)
	var a api.Alt
	if n >= 0 {
		a = l[n]
	}
	switch use {
	case api.UseServe:
		return 0, m.note(api.HowHit, q, m.stored(q, p, a))
	case api.UseNever:
		return 0, m.note(api.HowError, q, flow.Error(504, closes))
	}
	m.last++
	m.asked[m.last] = &question{q, p, use, m.now}
	return m.last, flow.Asked(p, a, use)
}

func (m *model) stored(q, p api.Request, a api.Alt) []byte {
	if len(p.Fields) == len(q.Fields) {
		return flow.Cached(q, a, m.now)
	}
	r := a.R
	r.Fields = head.Set(r.Fields, "Age", strconv.FormatInt(fresh.Age(a.R, a.T, m.now), 10))
	return flow.Answer(q, part.Apply(q, r))
}

func (m *model) answer(n int, b []byte, lost bool) []byte {
	x := m.asked[n]
	if x == nil {
		return nil
	}
	delete(m.asked, n)
	r, e := http.Response(b, x.q.Method)
	bad := flow.Error(502, flow.Closes(x.q))
	if e != api.OK || lost {
		return m.note(api.HowError, x.q, bad)
	}
	k, t := policy.Key(x.p), api.Times{Asked: x.at, Came: m.now}
	host, _ := head.Get(x.p.Fields, "Host")
	address := [2]string{host, x.p.Target}
	if r.Status == 304 && x.use == api.UseCheck {
		l := m.kept[k]
		i, _ := alts.Select(l, x.p, m.now)
		if i < 0 {
			return m.note(api.HowError, x.q, bad)
		}
		a := api.Alt{Fields: l[i].Fields, R: cond.Merge(l[i].R, r), T: t}
		m.kept[k] = append(slices.Delete(slices.Clone(l), i, i+1), a)
		return m.note(api.HowCheck, x.q, m.stored(x.q, x.p, a))
	}
	forget := func() {
		m.known = slices.DeleteFunc(m.known, func(a [2]string) bool { return a == address })
	}
	if policy.May(x.p, r) {
		m.kept[k] = alts.Add(m.kept[k], alts.Make(x.p, r, t))
		forget()
		m.known = append(m.known, address)
		m.known = m.known[max(len(m.known)-100, 0):]
	} else if x.use == api.UseCheck {
		delete(m.kept, k)
	}
	if !policy.Safe(x.q.Method) && r.Status < 400 {
		delete(m.kept, k)
		forget()
	}
	if len(x.p.Fields) != len(x.q.Fields) {
		r = part.Apply(x.q, r)
	}
	return m.note(map[int]int{api.UseMiss: api.HowMiss, api.UseCheck: api.HowCheck}[x.use], x.q, flow.Answer(x.q, r))
}

func (m *model) console(q api.Request) []byte {
	s := string(q.Body)
	if q.Method == "GET" {
		_, query, _ := strings.Cut(q.Target, "?")
		s, _ = url.QueryUnescape(query)
	} else if q.Method != "POST" {
		return flow.Error(405, flow.Closes(q))
	}
	r := api.Response{Status: 200, Reason: "OK", Fields: []api.Field{{Name: "Content-Type", Value: "text/plain"}}}
	if flow.Closes(q) {
		r.Fields = head.Set(r.Fields, "Connection", "close")
	}
	c, e := cmd.Parse(s)
	all := cmd.New()
	for _, a := range m.known {
		all.Add(a[0], a[1])
	}
	body := ""
	switch {
	case e != api.OK:
		r.Status, r.Reason, body = 400, "Bad Request", "what\n"
	case c.What == api.CmdPurge:
		found := all.Match(c.Word)
		for _, a := range found {
			delete(m.kept, policy.Key(api.Request{Target: a[1], Fields: []api.Field{{Name: "Host", Value: a[0]}}}))
		}
		m.known = slices.DeleteFunc(m.known, func(a [2]string) bool { return slices.Contains(found, a) })
		body = "purged " + strconv.Itoa(len(found)) + "\n"
	case c.What == api.CmdShow:
		for _, a := range all.Match(c.Word) {
			body += a[0] + a[1] + "\n"
		}
	case c.What == api.CmdLog:
		for _, l := range m.log[max(len(m.log)-c.N, 0):] {
			body += line.Text(l) + "\n"
		}
	case c.What == api.CmdStat:
		body = m.stat.Text()
	case c.What == api.CmdRules:
		body = conf.Text(m.conf)
	default:
		body = "synced\n"
	}
	r.Body = []byte(body)
	return http.ResponseBytes(r, q.Method)
}
