package line

import (
	"slices"

	"ambry/api"
)

// Log has the last lines that were added, in a ring: behind its last place comes its first.
type Log struct {
	ring []api.Line
	next int // where the next line goes
	n    int
}

// New answers an empty log of at most so many lines.
func New(most int) *Log {
	return &Log{ring: make([]api.Line, min(max(most, 0), api.MaxLog))}
}

// Len answers how many lines there are.
func (g *Log) Len() int { return g.n }

// Add puts a line at the end.
func (g *Log) Add(l api.Line) {
	if len(g.ring) == 0 {
		return
	}
	g.ring[g.next] = l
	g.next = (g.next + 1) % len(g.ring)
	g.n = min(g.n+1, len(g.ring))
}

// Last answers the last n lines, the eldest first.
func (g *Log) Last(n int) []api.Line {
	n = min(max(n, 0), g.n)
	from := g.next - n
	if from >= 0 {
		return slices.Clone(g.ring[from:g.next:g.next])
	}
	from += len(g.ring)
	return slices.Concat(g.ring[from:len(g.ring):len(g.ring)], g.ring[:g.next:g.next])
}
