package layout

import (
	"slices"

	"naskh/accent"
	"naskh/api"
	"naskh/breaks"
	"naskh/cluster"
	"naskh/mirror"
	"naskh/order"
	"naskh/para"
	"naskh/props"
	"naskh/resolve"
	"naskh/shape"
	"naskh/strip"
)

// A work is a text that is laid out: its result, as far as there is one, and what is known of what was shaped.
type work struct {
	api.Result
	p          *props.Props
	o          api.Options
	size       int        // how many codes went in
	paragraphs []api.Span // of Shaped
	marks      []bool     // which places of Shaped are marks, where these stand behind their base
}

// begin shapes a text. Clusters lead from what went in to Shaped till lines are seen.
func begin(p *props.Props, text []int, o api.Options) (*work, api.Errno) {
	shaped, clusters, err := shape.Shape(p, text, o)
	if err != api.OK {
		return nil, err
	}
	w := &work{p: p, o: o, size: len(text), paragraphs: para.Split(p, shaped)}
	w.Shaped, w.Clusters = shaped, clusters
	if o.Marks {
		err = w.carry()
	}
	return w, err
}

// carry finds the marks, and has each one belong to the place ahead of it, unless a paragraph begins with it.
func (w *work) carry() api.Errno {
	w.marks = make([]bool, len(w.Shaped))
	for at, code := range w.Shaped {
		w.marks[at] = w.p.Mark(code)
	}
	carried := slices.Clone(w.marks)
	for _, s := range w.paragraphs {
		carried[s.Lo] = false
	}
	links := slices.Clone(w.Clusters)
	for _, c := range w.Clusters {
		for at := c.Out.Lo; at < c.Out.Hi; at++ {
			if carried[at] {
				links = append(links, api.Cluster{In: c.In, Out: api.Span{Lo: at - 1, Hi: at + 1}})
			}
		}
	}
	var err api.Errno
	w.Clusters, err = cluster.Finest(w.size, len(w.Shaped), links)
	return err
}

// cut finds the levels, and the lines, of which each one lies in one paragraph.
func (w *work) cut(ends []int) api.Errno {
	through, err := breaks.Through(w.Clusters, w.size, len(w.Shaped), ends...)
	if err != api.OK {
		return err
	}
	classes := w.p.Classes(w.Shaped)
	bases, levels := resolve.Levels(w.p, w.Shaped, w.o.Direction)
	w.Bases = bases
	which := 0
	for _, s := range breaks.Lines(w.paragraphs, through...) {
		if s.Lo == w.paragraphs[which].Hi {
			which++
		}
		own := resolve.Line(classes, levels, s, bases[which])
		w.Lines = append(w.Lines, api.Line{Span: s, Levels: own, Order: w.order(s, own)})
	}
	return api.OK
}

// order tells in which order the places of a line are seen.
func (w *work) order(s api.Span, levels []int) []int {
	if !w.o.Reorder {
		return asTheyStand(len(levels))
	}
	seen := order.Visual(levels)
	if w.o.Marks {
		// There are as many of each, and what Visual tells is an order: none is refused.
		seen, _ = accent.Order(seen, levels, w.marks[s.Lo:s.Hi])
	}
	return seen
}

// asTheyStand tells n places in order.
func asTheyStand(n int) []int {
	places := make([]int, n)
	for at := range places {
		places[at] = at
	}
	return places
}

// see tells what is seen of all lines, and has Clusters lead there.
func (w *work) see() api.Errno {
	codes := w.mirrored()
	links := make([]api.Cluster, 0, len(codes))
	w.Codes = make([]int, 0, len(codes))
	w.each(func(place int) {
		at := len(w.Codes)
		links = append(links, api.Cluster{In: api.Span{Lo: place, Hi: place + 1}, Out: api.Span{Lo: at, Hi: at + 1}})
		w.Codes = append(w.Codes, codes[place])
	})
	seen, err := cluster.Finest(len(codes), len(w.Codes), links)
	if err != api.OK { // nothing is seen of a text
		return err
	}
	w.Clusters, err = cluster.Compose(w.Clusters, seen)
	return err
}

// mirrored tells what is seen of each place of Shaped.
func (w *work) mirrored() []int {
	if !w.o.Mirror {
		return w.Shaped
	}
	// The lines go through all places, so that all are mirrored at once, each code being looked for but once.
	levels := make([]int, 0, len(w.Shaped))
	for _, line := range w.Lines {
		levels = append(levels, line.Levels...)
	}
	return mirror.Codes(w.Shaped, levels)
}

// each calls f with each place of Shaped that is seen, in the order in which they are.
func (w *work) each(f func(place int)) {
	keep := slices.Repeat([]bool{true}, len(w.Shaped))
	if w.o.Strip {
		keep = strip.Keep(w.p, w.Shaped)
	}
	for _, line := range w.Lines {
		for _, at := range line.Order {
			if place := line.Lo + at; keep[place] {
				f(place)
			}
		}
	}
}
