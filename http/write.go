package http

import (
	"strconv"

	"ambry/api"
	"ambry/head"
)

const (
	noContent   = 204
	notModified = 304
)

// Bodiless tells whether a response of that status to that method has no body.
func Bodiless(status int, method string) bool {
	return method == "HEAD" || status == noContent || status == notModified || status < leastStatus
}

// RequestBytes writes a request.
func RequestBytes(r api.Request) []byte {
	l := unframed(r.Fields)
	switch r.Method {
	case "POST", "PUT", "PATCH":
		l = append(l, lengthField(len(r.Body)))
	default:
		if len(r.Body) > 0 {
			l = append(l, lengthField(len(r.Body)))
		}
	}
	return message(r.Method+" "+r.Target+" "+version, l, r.Body)
}

// ResponseBytes writes a response to a request of that method.
func ResponseBytes(r api.Response, method string) []byte {
	l := unframed(r.Fields)
	if r.Status != noContent && r.Status >= leastStatus {
		l = append(l, responseLength(r, method)...)
	}
	body := r.Body
	if Bodiless(r.Status, method) {
		body = nil
	}
	return message(version+" "+digits(r.Status)+" "+r.Reason, l, body)
}

// responseLength: one without a body tells the length that the body would have, where it is known.
func responseLength(r api.Response, method string) []api.Field {
	if method != "HEAD" && r.Status != notModified {
		return []api.Field{lengthField(len(r.Body))}
	}
	if v, ok := head.Get(r.Fields, "Content-Length"); ok {
		return []api.Field{{Name: "Content-Length", Value: v}}
	}
	return nil
}

// digits writes the lowest three decimals of a status.
func digits(status int) string {
	n := max(status, 0) % 1000
	return strconv.Itoa(n + 1000)[1:]
}

func lengthField(n int) api.Field {
	return api.Field{Name: "Content-Length", Value: strconv.Itoa(n)}
}

// unframed leaves out the fields that are about framing.
func unframed(l []api.Field) []api.Field {
	return head.Drop(head.Drop(l, "Content-Length"), "Transfer-Encoding")
}

// message puts a message together.
func message(first string, l []api.Field, body []byte) []byte {
	b := []byte(first + "\r\n" + head.Lines(l) + "\r\n")
	return append(b, body...)
}
