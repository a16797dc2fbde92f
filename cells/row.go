package cells

import (
	"slices"

	"naskh/api"
	"naskh/span"
)

// A cell is a place of a text.
type cell struct {
	codes []int
	end   int // where the farthest span ends that was joined from this cell on: a nearer one lies within it, and is not kept
}

// A row is cells side by side.
type row struct {
	cells []cell
	ahead []int // what the first cell has ahead of its codes, the last one first: so it grows without what is there being moved
}

// set gives a cell these codes, and no others.
func (r *row) set(at int, codes []int) {
	r.cells[at].codes = slices.Clone(codes)
	if at == 0 {
		r.ahead = nil
	}
}

// count tells how many codes the cells of a span have together.
func (r *row) count(s api.Span) int {
	n := 0
	if s.Lo == 0 {
		n = len(r.ahead)
	}
	for _, c := range r.cells[s.Lo:s.Hi] {
		n += len(c.codes)
	}
	return n
}

// told tells the codes of the cells of a span, one behind the other.
func (r *row) told(s api.Span) []int {
	codes := make([]int, 0, r.count(s))
	if s.Lo == 0 {
		codes = append(codes, r.ahead...)
		slices.Reverse(codes)
	}
	for _, c := range r.cells[s.Lo:s.Hi] {
		codes = append(codes, c.codes...)
	}
	return codes
}

// joined tells the spans that were joined.
func (r *row) joined() []api.Span {
	var together []api.Span
	for at, c := range r.cells {
		if s := (api.Span{Lo: at, Hi: c.end}); span.Right(s) {
			together = append(together, s)
		}
	}
	return together
}

// links tells a cluster of each group of cells that has codes, to where these stand among all codes.
func (r *row) links() []api.Cluster {
	var links []api.Cluster
	end := 0
	for _, group := range span.Groups(len(r.cells), r.joined()) {
		out := api.Span{Lo: end, Hi: end + r.count(group)}
		if span.Right(out) {
			links = append(links, api.Cluster{In: group, Out: out})
		}
		end = out.Hi
	}
	return links
}
