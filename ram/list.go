package ram

import "ambry/api"

// list: nodes from the eldest on.
type list struct {
	first, last *node
	n           int
}

// push puts a node at the end.
func (l *list) push(n *node) {
	n.prev, n.next = l.last, nil
	if l.last == nil {
		l.first = n
	} else {
		l.last.next = n
	}
	l.last = n
	l.n++
}

// drop takes a node of this list out of it.
func (l *list) drop(n *node) {
	if n.prev == nil {
		l.first = n.next
	} else {
		n.prev.next = n.next
	}
	if n.next == nil {
		l.last = n.prev
	} else {
		n.next.prev = n.prev
	}
	n.prev, n.next = nil, nil
	l.n--
}

// keys answers the nodes' keys in order.
func (l *list) keys() []api.Key {
	var k []api.Key
	for n := l.first; n != nil; n = n.next {
		k = append(k, n.key)
	}
	return k
}
