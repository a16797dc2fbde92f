package layout_test

import (
	"cmp"
	"slices"
	"testing"

	"naskh/accent"
	"naskh/api"
	"naskh/layout"
	"naskh/option"
	"naskh/order"
	"naskh/pairs"
	"naskh/props"
	"naskh/resolve"
	"naskh/shape"
)

// Codes in words.
const (
	lam       = 0x644
	alef      = 0x627
	beh       = 0x628
	seen      = 0x633
	yeh       = 0x626
	fatha     = 0x64E
	shadda    = 0x651
	bet       = 0x5D0
	space     = 0x20
	latin     = 0x61
	one       = 0x31
	toRight   = 0x200F // a mark of direction, which is a control
	isolate   = 0x2067
	ended     = 0x2069
	paragraph = 0x2029
	feed      = 0xA
	carriage  = 0xD
	lamAlef   = 0xFEFB
	ill       = api.IllBase + 0xD83D
)

// of is a span in fewer words, to a cluster.
func of(lo, hi int) api.Span { return api.Span{Lo: lo, Hi: hi} }

func to(a, b, c, d int) api.Cluster { return api.Cluster{In: of(a, b), Out: of(c, d)} }

// ones is the map of n places to themselves.
func ones(n int) []api.Cluster {
	var l []api.Cluster
	for at := range n {
		l = append(l, to(at, at+1, at, at+1))
	}
	return l
}

// each calls f with every list of n of these.
func each[T any](n int, items []T, f func(list []T)) {
	all := 1
	for range n {
		all *= len(items)
	}
	for which := range all {
		list := make([]T, n)
		for at := range list {
			list[at] = items[which%len(items)]
			which /= len(items)
		}
		f(list)
	}
}

// cuts calls f with all lists of breaks that rise above 0 and below n.
func cuts(n int, f func(ends []int)) {
	for bits := range 1 << max(n-1, 0) {
		var ends []int
		for at := 1; at < n; at++ {
			if bits>>(at-1)&1 != 0 {
				ends = append(ends, at)
			}
		}
		f(ends)
	}
}

// numbers tells n numbers below limit that look as if they were drawn, always the same ones.
func numbers(n, limit int, seed uint64) []int {
	list := make([]int, n)
	for at := range list {
		seed = seed*6364136223846793005 + 1442695040888963407
		list[at] = int(seed>>33) % limit
	}
	return list
}

// share says whether two spans have a place together.
func share(a, b api.Span) bool { return max(a.Lo, b.Lo) < min(a.Hi, b.Hi) }

// finest tells the finest map of n places that cuts no link: links that share a place on either side are made one, till none do.
func finest(n int, links []api.Cluster) []api.Cluster {
	var l []api.Cluster
	meets := func(c api.Cluster) func(other api.Cluster) bool {
		return func(other api.Cluster) bool { return share(c.In, other.In) || share(c.Out, other.Out) }
	}
	for _, c := range links {
		for at := slices.IndexFunc(l, meets(c)); at >= 0; at = slices.IndexFunc(l, meets(c)) {
			o := l[at]
			c = to(min(c.In.Lo, o.In.Lo), max(c.In.Hi, o.In.Hi), min(c.Out.Lo, o.Out.Lo), max(c.Out.Hi, o.Out.Hi))
			l = slices.Delete(l, at, at+1)
		}
		l = append(l, c)
	}
	slices.SortFunc(l, func(a, b api.Cluster) int { return cmp.Compare(a.In.Lo, b.In.Lo) })
	for i := range l {
		if i == 0 {
			l[i].In.Lo = 0
		}
		l[i].In.Hi = n
		if i+1 < len(l) {
			l[i].In.Hi = l[i+1].In.Lo
		}
	}
	return l
}

// composed tells the map of n places that leads through both.
func composed(n int, a, b []api.Cluster) []api.Cluster {
	var links []api.Cluster
	for _, x := range a {
		for _, y := range b {
			if share(x.Out, y.In) {
				links = append(links, api.Cluster{In: x.In, Out: y.Out})
			}
		}
	}
	return finest(n, links)
}

// begins says whether a paragraph begins at a place.
func begins(p *props.Props, codes []int, at int) bool {
	return at == 0 || p.Class(codes[at-1]) == api.B && (codes[at-1] != carriage || codes[at] != feed)
}

// joined tells the clusters of what was shaped, with each mark joined to what is ahead of it in its paragraph.
func joined(p *props.Props, n int, shaped []int, clusters []api.Cluster) []api.Cluster {
	links := slices.Clone(clusters)
	for at, code := range shaped {
		if p.Class(code) != api.NSM || begins(p, shaped, at) {
			continue
		}
		own := slices.IndexFunc(clusters, func(c api.Cluster) bool { return share(c.Out, of(at, at+1)) })
		links = append(links, api.Cluster{In: clusters[own].In, Out: of(at-1, at+1)})
	}
	return finest(n, links)
}

// through tells where lines end in what was shaped, or that one would end within what stays together.
func through(clusters []api.Cluster, ends []int) ([]int, api.Errno) {
	var places []int
	for _, end := range ends {
		count, last := 0, 0
		for _, c := range clusters {
			switch {
			case c.In.Hi <= end:
				count, last = count+c.Out.Hi-c.Out.Lo, max(last, c.Out.Hi)
			case c.In.Lo < end:
				return nil, api.ErrSplit
			}
		}
		if count != last {
			return nil, api.ErrSplit
		}
		places = append(places, count)
	}
	return places, api.OK
}

// A model is what is to be answered of a text, by the promises' words.
type model struct {
	p *props.Props
	o api.Options
	r api.Result
}

// newModel tells what Codes is to answer.
func newModel(p *props.Props, text []int, o api.Options, ends []int) (api.Result, api.Errno) {
	if err := option.Check(o); err != api.OK {
		return api.Result{}, err
	}
	for i, end := range ends {
		if end <= 0 || end >= len(text) || i > 0 && end <= ends[i-1] {
			return api.Result{}, api.ErrBreak
		}
	}
	shaped, clusters, err := shape.Shape(p, text, o)
	if err != api.OK {
		return api.Result{}, err
	}
	if o.Marks {
		clusters = joined(p, len(text), shaped, clusters)
	}
	places, err := through(clusters, ends)
	if err != api.OK {
		return api.Result{}, err
	}
	m := &model{p: p, o: o}
	m.r.Shaped = shaped
	m.lines(places)
	links := m.see()
	if len(links) == 0 && len(text) > 0 {
		return api.Result{}, api.ErrAllRemoved
	}
	m.r.Clusters = composed(len(text), clusters, finest(len(shaped), links))
	return m.r, api.OK
}

// lines cuts what was shaped, place by place, into lines.
func (m *model) lines(places []int) {
	var levels []int
	m.r.Bases, levels = resolve.Levels(m.p, m.r.Shaped, m.o.Direction)
	which, lo := -1, 0
	for at := range m.r.Shaped {
		if begins(m.p, m.r.Shaped, at) {
			which++
		}
		if hi := at + 1; hi == len(m.r.Shaped) || begins(m.p, m.r.Shaped, hi) || slices.Contains(places, hi) {
			m.r.Lines = append(m.r.Lines, m.line(levels, of(lo, hi), m.r.Bases[which]))
			lo = hi
		}
	}
}

// line tells a line.
func (m *model) line(levels []int, s api.Span, base int) api.Line {
	own := resolve.Line(m.p.Classes(m.r.Shaped), levels, s, base)
	l := api.Line{Span: s, Levels: own}
	var marks []bool
	for at := s.Lo; at < s.Hi; at++ {
		l.Order = append(l.Order, at-s.Lo)
		marks = append(marks, m.p.Class(m.r.Shaped[at]) == api.NSM)
	}
	if m.o.Reorder {
		l.Order = order.Visual(own)
	}
	if m.o.Marks {
		l.Order, _ = accent.Order(l.Order, own, marks)
	}
	return l
}

// see puts down what is seen, and tells a link from each place that is seen to where it is.
func (m *model) see() []api.Cluster {
	var links []api.Cluster
	for _, l := range m.r.Lines {
		for _, at := range l.Order {
			code := m.r.Shaped[l.Lo+at]
			if m.o.Mirror && l.Levels[at]%2 == 1 {
				code = pairs.Mirror(code)
			}
			if m.o.Strip && m.p.Control(code) {
				continue
			}
			links = append(links, to(l.Lo+at, l.Lo+at+1, len(links), len(links)+1))
			m.r.Codes = append(m.r.Codes, code)
		}
	}
	return links
}

// alike says whether two results are the same: lists that are nil and empty are.
func alike(a, b api.Result) bool {
	return slices.Equal(a.Codes, b.Codes) && slices.Equal(a.Clusters, b.Clusters) && slices.Equal(a.Shaped, b.Shaped) && slices.Equal(a.Bases, b.Bases) &&
		slices.EqualFunc(a.Lines, b.Lines, func(x, y api.Line) bool {
			return x.Span == y.Span && slices.Equal(x.Levels, y.Levels) && slices.Equal(x.Order, y.Order)
		})
}

// holds fails unless Codes answers what the promises say; it tells what that is.
func holds(t *testing.T, p *props.Props, text []int, o api.Options, ends []int) (api.Result, api.Errno) {
	t.Helper()
	want, wrong := newModel(p, text, o, ends)
	r, err := layout.Codes(p, text, o, ends...)
	if err != wrong || !alike(r, want) {
		t.Fatalf("Codes(%#x, %+v, %d): %+v, %d, not %+v, %d", text, o, ends, r, err, want, wrong)
	}
	return r, err
}
