package cluster

import (
	"naskh/api"
	"naskh/span"
)

// sets are places of which those that belong together lie side by side; a set is known by its first place.
type sets struct {
	ahead []int // of each place one of its set that is nearer to the first one; of the first one itself
	ends  []int // of the first place of a set where the set ends
}

// newSets tells n places, each in a set of its own.
func newSets(n int) sets {
	s := sets{ahead: make([]int, n), ends: make([]int, n)}
	for at := range n {
		s.ahead[at], s.ends[at] = at, at+1
	}
	return s
}

// set tells the set that a place is in.
func (s *sets) set(at int) api.Span {
	for s.ahead[at] != at {
		// Each way that is gone is made shorter, so that many places in one set are not gone through again and again.
		s.ahead[at] = s.ahead[s.ahead[at]]
		at = s.ahead[at]
	}
	return api.Span{Lo: at, Hi: s.ends[at]}
}

// unite makes two sets one, of which b begins where a ends.
func (s *sets) unite(a, b api.Span) api.Span {
	s.ahead[b.Lo] = a.Lo
	s.ends[a.Lo] = b.Hi
	return api.Span{Lo: a.Lo, Hi: b.Hi}
}

// A side is the places of what goes in, or of what comes out, in sets.
type side struct {
	sets
	beyond map[int]api.Span // by the first place of each linked set: what belongs to it on the other side
}

// newSide tells a side of n places of which none is linked; so many links are to come.
func newSide(n, links int) *side {
	return &side{sets: newSets(n), beyond: make(map[int]api.Span, min(n, links))}
}

// take makes all sets that have places of s one, to which also other belongs; it tells this set, and all that belongs to it on the other side.
func (d *side) take(s, other api.Span) (set, beyond api.Span) {
	set = d.set(s.Lo)
	beyond = span.Hull(other, d.beyond[set.Lo])
	for set.Hi < s.Hi {
		next := d.set(set.Hi)
		beyond = span.Hull(beyond, d.beyond[next.Lo])
		delete(d.beyond, next.Lo)
		set = d.unite(set, next)
	}
	d.beyond[set.Lo] = beyond
	return set, beyond
}
