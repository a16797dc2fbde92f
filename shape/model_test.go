package shape_test

import (
	"slices"
	"testing"

	"naskh/api"
	"naskh/cells"
	"naskh/digit"
	"naskh/forms"
	"naskh/join"
	"naskh/lamalef"
	"naskh/mark"
	"naskh/option"
	"naskh/props"
	"naskh/shape"
	"naskh/tail"
	"naskh/unshape"
)

// Codes in words.
const (
	lam    = 0x644
	alef   = 0x627
	madda  = 0x622
	beh    = 0x628
	seen   = 0x633
	hamza  = 0x621
	bare   = 0x649 // the yeh without dots
	yeh    = 0x626 // the one with a hamza
	fatha  = 0x64E
	kasra  = 0x650
	shadda = 0x651
	small  = 0x670 // the alef above
	joiner = 0x200D
	space  = 0x20
	latin  = 0x61
	one    = 0x31

	lamAlef  = 0xFEFB
	behForm  = 0xFE91
	seenForm = 0xFEB3
	seenTail = 0xFE73
	accent   = 0xFE76
	pile     = 0xFC60
)

// of is a span in fewer words, to a cluster.
func of(lo, hi int) api.Span { return api.Span{Lo: lo, Hi: hi} }

func to(a, b, c, d int) api.Cluster { return api.Cluster{In: of(a, b), Out: of(c, d)} }

// each calls f with every text of n of these codes.
func each(n int, codes []int, f func(text []int)) {
	all := 1
	for range n {
		all *= len(codes)
	}
	for which := range all {
		text := make([]int, n)
		for at := range text {
			text[at] = codes[which%len(codes)]
			which /= len(codes)
		}
		f(text)
	}
}

// lettered tells all options with letters that go together and differ in what is done with letters, with digits kept.
func lettered() []api.Options {
	var l []api.Options
	for which := range 5 * 5 * 16 {
		flag := func(bit int) bool { return which/25&bit != 0 }
		o := api.Options{Letters: true, LamAlef: which % 5, Tashkeel: which / 5 % 5, Through: flag(1), Pile: flag(2), Seen: flag(4), Yeh: flag(8)}
		if option.Check(o) == api.OK {
			l = append(l, o)
		}
	}
	return l
}

// A model is what is to become of a text, by the promises' words.
type model struct {
	codes    [][]int    // of each place
	together []api.Span // what belongs together
	pairs    int
}

// newModel tells what Cells is to have.
func newModel(p *props.Props, text []int, o api.Options) *model {
	m := &model{codes: make([][]int, len(text))}
	types := p.Joins(text)
	joined, marked := join.Forms(types), mark.All(text, types, o.Tashkeel, o.Pile)
	for at, code := range text {
		m.codes[at] = becomes(code, joined[at], marked[at], o)
		if o.Pile && slices.Contains(mark.Piles(text), at) {
			m.together = append(m.together, of(at, at+2))
		}
	}
	if o.LamAlef == api.LamOff {
		return m
	}
	pairs := lamalef.Find(text, types, o.Through)
	for i, pair := range pairs {
		m.codes[pair.Open], m.codes[pair.Close] = []int{lamalef.Codes(text, types, pairs)[i]}, nil
		if o.LamAlef == api.LamNear {
			m.codes[pair.Close] = []int{space}
		}
		m.together = append(m.together, of(pair.Open, pair.Close+1))
	}
	m.pairs = len(pairs)
	if last := len(text) - 1; m.pairs > 0 {
		switch spaces := slices.Repeat([]int{space}, m.pairs); o.LamAlef {
		case api.LamBegin:
			m.codes[0] = slices.Concat(spaces, m.codes[0])
		case api.LamEnd:
			m.codes[last] = slices.Concat(m.codes[last], spaces)
		}
	}
	return m
}

// becomes tells what becomes of a code of no pair, by its form and by what is said of it as a mark.
func becomes(code, form int, marked []int, o api.Options) []int {
	if code >= 0x64B && code <= 0x652 || code == 0x670 {
		return marked
	}
	if l, ok := tail.Tail(code, form, o.Seen, o.Yeh); ok {
		return l
	}
	if is, ok := forms.Form(code, form); ok {
		return []int{is}
	}
	return []int{code}
}

// mapped tells the finest map of places to their codes: a place goes on with those ahead of it, if something that belongs together says so, if its cluster has no codes, or if none ahead has.
func (m *model) mapped() []api.Cluster {
	var l []api.Cluster
	out := 0
	for at := 0; at < len(m.codes); {
		c := to(at, at+1, out, out)
		for at < c.In.Hi {
			for _, s := range m.together {
				if s.Lo <= at && s.Hi > at {
					c.In.Hi = max(c.In.Hi, s.Hi)
				}
			}
			c.Out.Hi += len(m.codes[at])
			at++
		}
		out = c.Out.Hi
		if last := len(l) - 1; last >= 0 && (c.Out.Lo == out || l[last].Out.Lo == l[last].Out.Hi) {
			l[last].In.Hi, l[last].Out.Hi = c.In.Hi, out
			continue
		}
		l = append(l, c)
	}
	return l
}

// removed says whether nothing is left of a text.
func (m *model) removed() bool { return len(m.codes) > 0 && len(slices.Concat(m.codes...)) == 0 }

// from tells the map of what went in to what the model's places become, if each of these comes of the place that owner says: clusters that share a place of what went in are one.
func (m *model) from(owner []int) []api.Cluster {
	var l []api.Cluster
	for _, c := range m.mapped() {
		c.In = of(owner[c.In.Lo], owner[c.In.Hi-1]+1)
		if last := len(l) - 1; last >= 0 && l[last].In.Hi > c.In.Lo {
			l[last] = to(l[last].In.Lo, c.In.Hi, l[last].Out.Lo, c.Out.Hi)
			continue
		}
		l = append(l, c)
	}
	return l
}

// taken tells the letters and marks of a text, and of which place each of them comes.
func taken(text []int) (letters, owner []int) {
	c, _ := unshape.Back(text)
	for at := range text {
		letters = append(letters, c.At(at)...)
		owner = append(owner, slices.Repeat([]int{at}, len(c.At(at)))...)
	}
	return letters, owner
}

// cellsHold fails unless Cells answers what the promise says, for options that go together.
func cellsHold(t *testing.T, p *props.Props, text []int, o api.Options) {
	t.Helper()
	m := newModel(p, text, o)
	c, err := shape.Cells(p, text, o)
	if err != api.OK {
		t.Fatalf("Cells(%#x, %v): %d", text, o, err)
	}
	told(t, c, m.codes)
	want := m.mapped()
	if m.removed() {
		want = nil
	}
	if l, err := c.Clusters(); !slices.Equal(l, want) || (err != api.OK) != m.removed() {
		t.Fatalf("Cells(%#x, %v): %v, %d, not %v", text, o, l, err, want)
	}
}

// told fails unless each cell has these codes.
func told(t *testing.T, c *cells.Cells, codes [][]int) {
	t.Helper()
	for at, want := range codes {
		if l := c.At(at); !slices.Equal(l, want) {
			t.Fatalf("at %d: %#x, not %#x", at, l, want)
		}
	}
	if l := c.At(len(codes)); len(l) != 0 {
		t.Fatalf("one cell more: %#x", l)
	}
}

// shapeHolds fails unless Shape and Ligatures answer what the promise says, for options that go together.
func shapeHolds(t *testing.T, p *props.Props, text []int, o api.Options) {
	t.Helper()
	want, pairs, wrong := digit.Text(p, text, o.Digits, o.Eastern), 0, api.OK
	var clusters []api.Cluster
	for at := range text {
		clusters = append(clusters, to(at, at+1, at, at+1))
	}
	if o.Letters {
		letters, owner := taken(want)
		m := newModel(p, letters, o)
		want, clusters, pairs = slices.Concat(m.codes...), m.from(owner), m.pairs
		if m.removed() {
			want, clusters, wrong = nil, nil, api.ErrAllRemoved
		}
	}
	if l, c, err := shape.Shape(p, text, o); err != wrong || !slices.Equal(l, want) || !slices.Equal(c, clusters) {
		t.Fatalf("Shape(%#x, %v): %#x, %v, %d, not %#x, %v, %d", text, o, l, c, err, want, clusters, wrong)
	}
	if n := shape.Ligatures(p, text, o); n != pairs {
		t.Fatalf("Ligatures(%#x, %v): %d, not %d", text, o, n, pairs)
	}
}

// holds fails unless all three answer what the promises say.
func holds(t *testing.T, p *props.Props, text []int, o api.Options) {
	t.Helper()
	cellsHold(t, p, text, o)
	shapeHolds(t, p, text, o)
}
