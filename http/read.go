// Package http reads and writes messages of HTTP/1.1.
package http

import (
	"bytes"
	"slices"
	"strings"

	"ambry/api"
	"ambry/chunk"
	"ambry/head"
	"ambry/text"
)

const (
	version     = "HTTP/1.1"
	headEnd     = "\r\n\r\n"
	maxDigits   = 18 // of a Content-Length
	leastStatus = 200
	mostStatus  = 599
)

// fault is what a message that can't be read ends with.
type fault struct {
	errno api.Errno
}

// demand ends the reading, unless ok.
func demand(ok bool, errno api.Errno) {
	if !ok {
		panic(fault{errno})
	}
}

// Request reads a request that b begins with, and answers how many bytes it takes.
func Request(b []byte) (r api.Request, n int, errno api.Errno) {
	defer func() {
		if f, ok := recover().(fault); ok {
			r, n, errno = api.Request{}, 0, f.errno
		}
	}()
	lines, rest := splitHead(b)
	words := strings.Split(lines[0], " ")
	demand(len(words) == 3, api.ErrLine)
	r.Method, r.Target = words[0], words[1]
	demand(head.Token(r.Method) && isTarget(r.Target) && words[2] == version, api.ErrLine)
	r.Fields = fields(lines[1:])
	demand(len(head.All(r.Fields, "Host")) == 1, api.ErrHead)
	body, size := framed(r.Fields, rest)
	r.Body = slices.Clone(body)
	return r, len(b) - len(rest) + size, api.OK
}

// Response reads a response to a request of that method.
func Response(b []byte, method string) (r api.Response, errno api.Errno) {
	defer func() {
		if f, ok := recover().(fault); ok {
			r, errno = api.Response{}, f.errno
		}
	}()
	lines, rest := splitHead(b)
	r.Status, r.Reason = statusLine(lines[0])
	r.Fields = fields(lines[1:])
	if Bodiless(r.Status, method) {
		return r, api.OK
	}
	body := rest
	if has(r.Fields, "Transfer-Encoding") || has(r.Fields, "Content-Length") {
		body, _ = framed(r.Fields, rest)
	}
	demand(len(body) <= api.MaxBody, api.ErrLong)
	r.Body = slices.Clone(body)
	return r, api.OK
}

// splitHead cuts the head into lines; behind it stands the rest.
func splitHead(b []byte) ([]string, []byte) {
	first := b[:min(len(b), api.MaxHead)]
	end := bytes.Index(first, []byte(headEnd))
	demand(end >= 0 || len(b) < api.MaxHead, api.ErrLong)
	demand(end >= 0, api.ErrShort)
	lines := strings.Split(string(b[:end]), "\r\n")
	for _, line := range lines {
		demand(!strings.ContainsAny(line, "\r\n"), api.ErrHead)
	}
	return lines, b[end+len(headEnd):]
}

// fields reads the lines behind the first one.
func fields(lines []string) []api.Field {
	l, errno := head.Parse(lines)
	demand(errno == api.OK, errno)
	return l
}

func has(l []api.Field, name string) bool {
	_, ok := head.Get(l, name)
	return ok
}

// isTarget: a / first, and no blanks nor controls.
func isTarget(s string) bool {
	for i := range len(s) {
		if s[i] < 33 || s[i] > 126 {
			return false
		}
	}
	return strings.HasPrefix(s, "/")
}

// statusLine reads the first line of a response. Those below 200 come ahead of a response, and are none.
func statusLine(line string) (int, string) {
	rest, ok := strings.CutPrefix(line, version+" ")
	demand(ok, api.ErrLine)
	code, reason, _ := strings.Cut(rest, " ")
	status, ok := text.Number(code, 3)
	demand(ok && len(code) == 3 && status >= leastStatus && status <= mostStatus, api.ErrLine)
	for i := range len(reason) {
		c := reason[i]
		demand(c == '\t' || c >= 32 && c != 127, api.ErrLine)
	}
	return status, reason
}

// framed answers the body that rest begins with, as its fields frame it, and how many bytes it takes.
func framed(l []api.Field, rest []byte) ([]byte, int) {
	if codings := head.All(l, "Transfer-Encoding"); len(codings) > 0 {
		demand(len(codings) == 1 && head.Same(codings[0], "chunked") && !has(l, "Content-Length"), api.ErrFrame)
		body, n, errno := chunk.Open(rest)
		demand(errno == api.OK, errno)
		return body, n
	}
	size := contentLength(l)
	demand(size <= api.MaxBody, api.ErrLong)
	demand(size <= len(rest), api.ErrShort)
	return rest[:size], size
}

// contentLength answers the length that is said; several must be one text.
func contentLength(l []api.Field) int {
	all := head.List(l, "Content-Length")
	if len(all) == 0 {
		return 0
	}
	for _, s := range all {
		demand(s == all[0], api.ErrFrame)
	}
	n, ok := text.Number(all[0], maxDigits)
	demand(ok, api.ErrFrame)
	return n
}
