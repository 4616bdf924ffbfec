package edge

import (
	"strconv"
	"strings"

	"ambry/api"
	"ambry/cmd"
	"ambry/conf"
	"ambry/flow"
	"ambry/http"
	"ambry/line"
	"ambry/norm"
	"ambry/text"
)

// console answers the console's reply.
func (e *Edge) console(q api.Request) []byte {
	closes := flow.Closes(q)
	tell := func(status int, reason, body string) []byte {
		l := []api.Field{{Name: "Content-Type", Value: "text/plain"}}
		if closes {
			l = append(l, api.Field{Name: "Connection", Value: "close"})
		}
		return http.ResponseBytes(api.Response{Status: status, Reason: reason, Fields: l, Body: []byte(body)}, q.Method)
	}
	command := string(q.Body)
	switch q.Method {
	case "POST":
	case "GET":
		_, query, _ := norm.Split(q.Target)
		said, ok := decoded(query)
		if !ok {
			return flow.Error(400, closes)
		}
		command = said
	default:
		return flow.Error(405, closes)
	}
	c, errno := cmd.Parse(command)
	if errno != api.OK {
		return tell(400, "Bad Request", "what\n")
	}
	return tell(200, "OK", e.run(c))
}

// decoded answers a query's text: a + is a space, a % and two digits any byte.
func decoded(query string) (string, bool) {
	var b strings.Builder
	for i := 0; i < len(query); i++ {
		switch query[i] {
		case '+':
			b.WriteByte(' ')
		case '%':
			c, ok := text.HexByte(query[i+1:])
			if !ok {
				return "", false
			}
			b.WriteByte(c)
			i += 2
		default:
			b.WriteByte(query[i])
		}
	}
	return b.String(), true
}

// run does what a command says, and answers what it tells.
func (e *Edge) run(c api.Cmd) string {
	switch c.What {
	case api.CmdPurge:
		return e.purge(c.Word)
	case api.CmdShow:
		var b strings.Builder
		for _, a := range e.known.Match(c.Word) {
			b.WriteString(a[0] + a[1] + "\n")
		}
		return b.String()
	case api.CmdLog:
		var b strings.Builder
		for _, l := range e.log.Last(c.N) {
			b.WriteString(line.Text(l) + "\n")
		}
		return b.String()
	case api.CmdStat:
		return e.stat.Text()
	case api.CmdRules:
		return conf.Text(e.conf)
	}
	if e.Sync() != api.OK {
		return "down\n"
	}
	return "synced\n"
}

// purge drops the addresses that a pattern matches.
func (e *Edge) purge(p string) string {
	found := e.known.Match(p)
	for _, a := range found {
		e.c.Drop(api.Request{Method: "GET", Target: a[1], Fields: []api.Field{{Name: "Host", Value: a[0]}}})
		e.known.Drop(a[0], a[1])
	}
	return "purged " + strconv.Itoa(len(found)) + "\n"
}
