package cmd

import (
	"cmp"
	"slices"

	"ambry/api"
	"ambry/glob"
)

// Known is a list of addresses: each with the number of the Add that put it last.
type Known struct {
	adds int
	last map[[2]string]int
}

// New answers an empty list.
func New() *Known { return &Known{last: map[[2]string]int{}} }

// Add puts an address last.
func (k *Known) Add(host, target string) {
	k.adds++
	k.last[[2]string{host, target}] = k.adds
	if len(k.last) > api.MaxKnown {
		delete(k.last, k.All()[0])
	}
}

// Drop takes an address away; whether it was there.
func (k *Known) Drop(host, target string) bool {
	address := [2]string{host, target}
	_, ok := k.last[address]
	delete(k.last, address)
	return ok
}

// All answers all addresses, the eldest first.
func (k *Known) All() [][2]string {
	l := make([][2]string, 0, len(k.last))
	for address := range k.last {
		l = append(l, address)
	}
	slices.SortFunc(l, func(a, b [2]string) int { return cmp.Compare(k.last[a], k.last[b]) })
	return l
}

// Match answers those whose host and target, one behind the other, p matches.
func (k *Known) Match(p string) [][2]string {
	var l [][2]string
	for _, address := range k.All() {
		if glob.Match(p, address[0]+address[1]) {
			l = append(l, address)
		}
	}
	return l
}
