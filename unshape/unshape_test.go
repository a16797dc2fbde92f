package unshape_test

import (
	"math"
	"slices"
	"testing"

	"naskh/api"
	"naskh/cells"
	"naskh/forms"
	"naskh/option"
	"naskh/props"
	"naskh/unshape"
)

// Codes in words.
const (
	lam    = 0x644
	alef   = 0x627
	madda  = 0x622
	beh    = 0x628
	seen   = 0x633
	hamza  = 0x621
	bare   = 0x649 // the yeh without dots
	yeh    = 0x626 // the one with a hamza
	fatha  = 0x64E
	shadda = 0x651
	space  = 0x20

	lamAlef  = 0xFEFB
	lamMadda = 0xFEF6
	behForm  = 0xFE91
	seenForm = 0xFEB3
	seenTail = 0xFE73
	bareForm = 0xFEEF
	yehTail  = 0xFE80
	accent   = 0xFE76
	pile     = 0xFC60
)

// noCodes are numbers beside those from 0 to MaxCode, what ends in the bits of forms among them.
var noCodes = []int{
	-1, -space, -lamAlef, math.MinInt, math.MinInt + lamAlef, math.MinInt + space, 0x110000, 0x110020, 0x11FEFB, 0x11FE73, 0x11FC60, 0x11D800,
	1<<32 | space, 1<<32 | lamAlef, 1<<32 | accent, 1<<32 | seenTail, math.MaxInt - space, math.MaxInt,
}

// lamAlefs are the ways of lam and alef that are known.
var lamAlefs = []int{api.LamOff, api.LamResize, api.LamNear, api.LamBegin, api.LamEnd}

// of is a span in fewer words, to a cluster.
func of(lo, hi int) api.Span { return api.Span{Lo: lo, Hi: hi} }

func to(a, b, c, d int) api.Cluster { return api.Cluster{In: of(a, b), Out: of(c, d)} }

// ways are options with letters.
func ways(lamAlef int, ofSeen, ofYeh bool) api.Options {
	return api.Options{Letters: true, LamAlef: lamAlef, Seen: ofSeen, Yeh: ofYeh}
}

// eachWay calls f with every options with letters that Unshape looks at, and with none.
func eachWay(f func(o api.Options)) {
	f(api.Options{})
	for _, lamAlef := range lamAlefs {
		for way := range 4 {
			f(ways(lamAlef, way&1 != 0, way&2 != 0))
		}
	}
}

// each calls f with every text of n of these codes.
func each(n int, codes []int, f func(text []int)) {
	all := 1
	for range n {
		all *= len(codes)
	}
	for which := range all {
		text := make([]int, n)
		for at := range text {
			text[at] = codes[which%len(codes)]
			which /= len(codes)
		}
		f(text)
	}
}

// A model knows what is to be answered, by api's lists and the words of the promises.
type model struct {
	*props.Props
	made  map[int][]int // what each form is made of
	marks map[int]bool  // accents and piles
}

// newModel lays api's lists out, turned round.
func newModel() *model {
	m := &model{props.New(), map[int][]int{}, map[int]bool{}}
	for _, l := range api.Letters() {
		for _, code := range l.Forms {
			m.made[code] = []int{l.Base}
		}
	}
	for _, l := range api.Ligatures() {
		m.made[l.Isolated], m.made[l.Final] = []int{lam, l.Alef}, []int{lam, l.Alef}
	}
	for _, a := range api.Accents() {
		m.made[a.Isolated], m.made[a.Medial] = []int{a.Mark}, []int{a.Mark}
		m.marks[a.Isolated], m.marks[a.Medial] = true, true
	}
	for _, p := range api.Piles() {
		m.made[p.Code], m.marks[p.Code] = []int{shadda, p.Mark}, true
	}
	delete(m.made, 0) // stands in the lists where there is none
	delete(m.marks, 0)
	return m
}

// back tells what Back is to have in the cell of a code.
func (m *model) back(code int) []int {
	if l, ok := m.made[code]; ok {
		return l
	}
	return []int{code}
}

// ligatures tells where a lam with alef stands.
func (m *model) ligatures(text []int) []int {
	var l []int
	for at, code := range text {
		if code >= 0xFEF5 && code <= 0xFEFC {
			l = append(l, at)
		}
	}
	return l
}

// tails tells the letter that two codes are, if they are one with its tail.
func tails(a, b int, o api.Options) int {
	switch {
	case o.Seen && b == seenTail:
		return map[int]int{0xFEB3: 0x633, 0xFEB4: 0x633, 0xFEB7: 0x634, 0xFEB8: 0x634, 0xFEBB: 0x635, 0xFEBC: 0x635, 0xFEBF: 0x636, 0xFEC0: 0x636}[a]
	case o.Yeh && b == yehTail && (a == 0xFEEF || a == 0xFEF0):
		return yeh
	}
	return 0
}

// cells tells the codes that each cell is to have, and which of them belong together.
func (m *model) cells(text []int, o api.Options) ([][]int, []api.Span, api.Errno) {
	codes, together := make([][]int, len(text)), []api.Span(nil)
	for at, code := range text {
		codes[at] = m.back(code)
		if len(codes[at]) == 2 && codes[at][0] == lam && o.LamAlef == api.LamOff || !o.Letters {
			codes[at] = []int{code}
		}
	}
	for at := range text {
		if at > 0 && len(codes[at-1]) > 0 && tails(text[at-1], text[at], o) != 0 {
			codes[at-1], codes[at] = []int{tails(text[at-1], text[at], o)}, nil
			together = append(together, of(at-1, at+1))
		}
	}
	places := m.ligatures(text)
	for i, at := range places {
		space := at
		switch o.LamAlef {
		case api.LamNear:
			for space++; space < len(text) && (m.marks[text[space]] || m.Join(text[space]) == api.JoinT); {
				space++
			}
			together = append(together, of(at, space+1))
		case api.LamBegin:
			space = i
		case api.LamEnd:
			space = len(text) - 1 - i
		default:
			continue
		}
		if space == len(text) || text[space] != 0x20 {
			return nil, nil, api.ErrSpace
		}
		codes[space] = nil
		if o.LamAlef == api.LamNear {
			codes[at], codes[space] = codes[at][:1], codes[at][1:]
		}
	}
	return codes, together, api.OK
}

// mapped tells the finest map of cells to their codes: a cell goes on with those ahead of it, if something that belongs together says so, if it has no codes, or if none ahead has.
func mapped(codes [][]int, together []api.Span) []api.Cluster {
	var l []api.Cluster
	out := 0
	for at := 0; at < len(codes); {
		c := to(at, at+1, out, out)
		for at < c.In.Hi {
			for _, s := range together {
				if s.Lo <= at && s.Hi > at {
					c.In.Hi = max(c.In.Hi, s.Hi)
				}
			}
			c.Out.Hi += len(codes[at])
			at++
		}
		out = c.Out.Hi
		if last := len(l) - 1; last >= 0 && (c.Out.Lo == out || l[last].Out.Lo == l[last].Out.Hi) {
			l[last].In.Hi, l[last].Out.Hi = c.In.Hi, out
			continue
		}
		l = append(l, c)
	}
	return l
}

// spaces tells how many spaces go.
func (m *model) spaces(text []int, o api.Options) int {
	if o.LamAlef == api.LamBegin || o.LamAlef == api.LamEnd {
		return len(m.ligatures(text))
	}
	return 0
}

// holds fails unless Unshape and Spaces answer what the promises say.
func (m *model) holds(t *testing.T, text []int, o api.Options) {
	t.Helper()
	want, n := []int(nil), 0
	var clusters []api.Cluster
	codes, together, wrong := m.cells(text, o)
	if wrong == api.OK {
		want, clusters, n = slices.Concat(codes...), mapped(codes, together), m.spaces(text, o)
	}
	if l, c, err := unshape.Unshape(m.Props, text, o); err != wrong || !slices.Equal(l, want) || !slices.Equal(c, clusters) {
		t.Fatalf("Unshape(%#x, %v): %#x, %v, %d, not %#x, %v, %d", text, o, l, c, err, want, clusters, wrong)
	}
	if k, err := unshape.Spaces(m.Props, text, o); err != wrong || k != n {
		t.Fatalf("Spaces(%#x, %v): %d, %d, not %d, %d", text, o, k, err, n, wrong)
	}
}

// P18.1: Back, by hand: a form of each kind, a tail, what is none, and what no form is made of.
func TestBack(t *testing.T) {
	for _, e := range []struct{ text, want []int }{
		{nil, nil}, {[]int{}, nil}, {[]int{0xFE91}, []int{beh}}, {[]int{0xFEFB}, []int{lam, alef}}, {[]int{0xFEFC, 0xFEF5}, []int{lam, alef, lam, madda}},
		{[]int{0xFE76, 0xFE77, 0xFE72}, []int{fatha, fatha, 0x64C}}, {[]int{0xFC60, 0xFC63}, []int{shadda, fatha, shadda, 0x670}},
		{[]int{0xFEB3, 0xFE73}, []int{seen, 0xFE73}}, {[]int{0xFEEF, 0xFE80}, []int{bare, hamza}}, {[]int{0xFEFB, space}, []int{lam, alef, space}},
		{[]int{beh, lam, alef, fatha, shadda, 0x61, 0x31, space, 0}, []int{beh, lam, alef, fatha, shadda, 0x61, 0x31, space, 0}},
		{[]int{-1, 0x11FEFB, 0x110000, math.MaxInt}, []int{-1, 0x11FEFB, 0x110000, math.MaxInt}}, {[]int{0xFE75, 0xFEFD, 0xFEFF, 0xFC5D, 0xFC64}, []int{0xFE75, 0xFEFD, 0xFEFF, 0xFC5D, 0xFC64}},
	} {
		c, err := unshape.Back(e.text)
		if err != api.OK || c == nil || !slices.Equal(c.Text(), e.want) {
			t.Errorf("Back(%#x): %#x, %d", e.text, c.Text(), err)
		}
	}
}

// told fails unless each cell has the codes that its code is made of, and no two belong together.
func (m *model) told(t *testing.T, c *cells.Cells, text []int) {
	t.Helper()
	for at, code := range text {
		if l := c.At(at); !slices.Equal(l, m.back(code)) {
			t.Fatalf("%#x at %d: %#x", code, at, l)
		}
	}
	if l := c.At(len(text)); len(l) != 0 {
		t.Fatalf("one cell more: %#x", l)
	}
	if l, err := c.Clusters(); err != api.OK || len(l) != len(text) {
		t.Fatalf("%d clusters of %d, %d", len(l), len(text), err)
	}
}

// P18.1, P18.4: Back of every code, and of what is none, each of them twice; no code is left that is a form, but the tail.
func TestBackEach(t *testing.T) {
	m := newModel()
	text := slices.Clone(noCodes)
	for code := range api.MaxCode + 1 {
		text = append(text, code)
	}
	for code := 0xFB50; code <= 0xFEFF; code++ {
		text = append(text, code)
	}
	c, err := unshape.Back(text)
	if err != api.OK {
		t.Fatal(err)
	}
	m.told(t, c, text)
	left := map[int]int{}
	for _, code := range c.Text() {
		if forms.Presented(code) {
			left[code]++
		}
	}
	if len(left) != 1 || left[seenTail] != 2 {
		t.Errorf("left: %v", left)
	}
}

// P18.1, P18.2, P18.3: of as many codes as a text may have, and of one more; wrong options come first.
func TestTooLong(t *testing.T) {
	p := props.New()
	text := slices.Repeat([]int{lamAlef}, api.MaxText+1)
	if c, err := unshape.Back(text); err != api.ErrLong || c != nil {
		t.Error(err)
	}
	if c, err := unshape.Back(text[1:]); err != api.OK || !slices.Equal(c.At(api.MaxText-1), []int{lam, alef}) {
		t.Error(err)
	}
	for _, e := range []struct {
		text []int
		o    api.Options
		want api.Errno
	}{
		{text, api.Options{}, api.ErrLong}, {text, ways(api.LamResize, true, true), api.ErrLong}, {text, ways(api.LamNear, false, false), api.ErrLong}, {text, ways(api.LamEnd, false, false), api.ErrLong},
		{text, api.Options{Direction: 4}, api.ErrArg}, {text, api.Options{LamAlef: api.LamNear}, api.ErrOption}, {text, ways(5, true, true), api.ErrArg},
		{text[:api.MaxText/2+1], ways(api.LamResize, false, false), api.ErrArg}, // so many codes have no map (P12.2, P4.2)
	} {
		if l, c, err := unshape.Unshape(p, e.text, e.o); err != e.want || len(l) != 0 || len(c) != 0 {
			t.Errorf("Unshape of %d, %v: %d codes, %d clusters, %d", len(e.text), e.o, len(l), len(c), err)
		}
		if n, err := unshape.Spaces(p, e.text, e.o); err != e.want || n != 0 {
			t.Errorf("Spaces of %d, %v: %d, %d", len(e.text), e.o, n, err)
		}
	}
	if _, _, err := unshape.Unshape(p, text[1:], ways(api.LamBegin, false, false)); err != api.ErrSpace {
		t.Error(err)
	}
}

// A oneCase is a text, its options, and what is to be answered.
type oneCase struct {
	text     []int
	o        api.Options
	want     []int
	clusters []api.Cluster
	err      api.Errno
}

// all fails unless each case answers as it is to.
func all(t *testing.T, cases []oneCase) {
	t.Helper()
	m := newModel()
	for _, e := range cases {
		if l, c, err := unshape.Unshape(m.Props, e.text, e.o); err != e.err || !slices.Equal(l, e.want) || !slices.Equal(c, e.clusters) {
			t.Errorf("Unshape(%#x, %v): %#x, %v, %d", e.text, e.o, l, c, err)
		}
		m.holds(t, e.text, e.o)
	}
}

// P18.2: by hand, without letters, and with lam and alef off: what stays as it is.
func TestStays(t *testing.T) {
	none, off := api.Options{}, ways(api.LamOff, false, false)
	text := []int{behForm, lamAlef, accent, pile}
	ones := []api.Cluster{to(0, 1, 0, 1), to(1, 2, 1, 2), to(2, 3, 2, 3), to(3, 4, 3, 4)}
	all(t, []oneCase{
		{nil, none, nil, nil, api.OK}, {[]int{}, off, nil, nil, api.OK},
		{text, none, text, ones, api.OK},
		{text, api.Options{Digits: api.DigitToArabic, Reorder: true, Marks: true, Mirror: true, Strip: true, Eastern: true, Direction: api.DirFirstRight}, text, ones, api.OK},
		{[]int{seenForm, seenTail, bareForm, yehTail}, none, []int{seenForm, seenTail, bareForm, yehTail}, ones, api.OK},
		{text, off, []int{beh, lamAlef, fatha, shadda, fatha}, []api.Cluster{ones[0], ones[1], ones[2], to(3, 4, 3, 5)}, api.OK},
		{[]int{seenForm, seenTail, bareForm, yehTail}, off, []int{seen, seenTail, bare, hamza}, ones, api.OK},
		{[]int{-1, 0x11FEFB, 0x61, 0x2029}, ways(api.LamEnd, true, true), []int{-1, 0x11FEFB, 0x61, 0x2029}, ones, api.OK},
		{text, ways(api.LamResize, false, false), []int{beh, lam, alef, fatha, shadda, fatha}, []api.Cluster{ones[0], to(1, 2, 1, 3), to(2, 3, 3, 4), to(3, 4, 4, 6)}, api.OK},
	})
}

// P18.2: tails, by hand: two of each, what is not asked for, letters and tails alone, and in the other order.
func TestTails(t *testing.T) {
	s, y, both := ways(api.LamOff, true, false), ways(api.LamOff, false, true), ways(api.LamResize, true, true)
	two, ones := []api.Cluster{to(0, 2, 0, 1)}, []api.Cluster{to(0, 1, 0, 1), to(1, 2, 1, 2)}
	all(t, []oneCase{
		{[]int{seenForm, seenTail}, s, []int{seen}, two, api.OK}, {[]int{0xFEC0, seenTail}, both, []int{0x636}, two, api.OK},
		{[]int{bareForm, yehTail}, y, []int{yeh}, two, api.OK}, {[]int{0xFEF0, yehTail}, both, []int{yeh}, two, api.OK},
		{[]int{seenForm, seenTail}, y, []int{seen, seenTail}, ones, api.OK}, {[]int{bareForm, yehTail}, s, []int{bare, hamza}, ones, api.OK},
		{[]int{seenTail, seenForm}, both, []int{seenTail, seen}, ones, api.OK}, {[]int{0xFEB1, seenTail}, both, []int{seen, seenTail}, ones, api.OK},
		{[]int{0xFBE8, yehTail}, both, []int{bare, hamza}, ones, api.OK}, {[]int{bareForm, hamza}, both, []int{bare, hamza}, ones, api.OK},
		{[]int{seen, seenTail}, both, []int{seen, seenTail}, ones, api.OK}, {[]int{bare, yehTail}, both, []int{bare, hamza}, ones, api.OK},
		{[]int{seenForm, seenTail, seenTail}, both, []int{seen, seenTail}, []api.Cluster{to(0, 2, 0, 1), to(2, 3, 1, 2)}, api.OK},
		{[]int{seenForm, seenForm, seenTail}, both, []int{seen, seen}, []api.Cluster{to(0, 1, 0, 1), to(1, 3, 1, 2)}, api.OK},
		{[]int{seenForm, accent, seenTail}, both, []int{seen, fatha, seenTail}, []api.Cluster{to(0, 1, 0, 1), to(1, 2, 1, 2), to(2, 3, 2, 3)}, api.OK},
		{[]int{seenForm, seenTail, bareForm, yehTail}, both, []int{seen, yeh}, []api.Cluster{to(0, 2, 0, 1), to(2, 4, 1, 2)}, api.OK},
		{[]int{space, lamAlef, seenForm, seenTail}, ways(api.LamBegin, true, false), []int{lam, alef, seen}, []api.Cluster{to(0, 2, 0, 2), to(2, 4, 2, 3)}, api.OK},
	})
}

// P18.2: a space behind each lam with alef, by hand: marks that are passed over, and what is no space, or not there.
func TestNear(t *testing.T) {
	near := ways(api.LamNear, false, false)
	no := func(text ...int) oneCase { return oneCase{text, near, nil, nil, api.ErrSpace} }
	all(t, []oneCase{
		{[]int{lamAlef, space}, near, []int{lam, alef}, []api.Cluster{to(0, 2, 0, 2)}, api.OK},
		{[]int{behForm, 0xFEFC, space, behForm}, near, []int{beh, lam, alef, beh}, []api.Cluster{to(0, 1, 0, 1), to(1, 3, 1, 3), to(3, 4, 3, 4)}, api.OK},
		{[]int{lamMadda, accent, pile, fatha, space}, near, []int{lam, fatha, shadda, fatha, fatha, madda}, []api.Cluster{to(0, 5, 0, 6)}, api.OK},
		{[]int{lamAlef, 0x200E, 0xFEFF, 0x300, 0x61C, space}, near, []int{lam, 0x200E, 0xFEFF, 0x300, 0x61C, alef}, []api.Cluster{to(0, 6, 0, 6)}, api.OK},
		{[]int{lamAlef, space, lamMadda, space, space}, near, []int{lam, alef, lam, madda, space}, []api.Cluster{to(0, 2, 0, 2), to(2, 4, 2, 4), to(4, 5, 4, 5)}, api.OK},
		{[]int{space, space}, near, []int{space, space}, []api.Cluster{to(0, 1, 0, 1), to(1, 2, 1, 2)}, api.OK},
		no(lamAlef), no(lamAlef, accent), no(lamAlef, fatha, pile), no(space, lamAlef), no(lamAlef, behForm, space), no(lamAlef, 0xA0), no(lamAlef, 0x2003), no(lamAlef, 0x110020),
		no(lamAlef, lamMadda, space, space), no(lamAlef, space, lamMadda), no(lamAlef, 0x200C, space), no(lamAlef, 0x200D, space), no(lamAlef, 0x640, space), no(lamAlef, seenTail, space), no(lamAlef, -1),
	})
}

// P18.2: spaces at the begin and at the end, by hand: enough, too few, one between others, one that is none.
func TestBeginAndEnd(t *testing.T) {
	begin, end := ways(api.LamBegin, false, false), ways(api.LamEnd, false, false)
	no := func(o api.Options, text ...int) oneCase { return oneCase{text, o, nil, nil, api.ErrSpace} }
	all(t, []oneCase{
		{[]int{space, lamAlef}, begin, []int{lam, alef}, []api.Cluster{to(0, 2, 0, 2)}, api.OK}, {[]int{lamAlef, space}, end, []int{lam, alef}, []api.Cluster{to(0, 2, 0, 2)}, api.OK},
		{[]int{space, behForm, 0xFEFC}, begin, []int{beh, lam, alef}, []api.Cluster{to(0, 2, 0, 1), to(2, 3, 1, 3)}, api.OK},
		{[]int{lamAlef, behForm, space}, end, []int{lam, alef, beh}, []api.Cluster{to(0, 1, 0, 2), to(1, 3, 2, 3)}, api.OK},
		{[]int{space, space, space, lamAlef, lamMadda}, begin, []int{space, lam, alef, lam, madda}, []api.Cluster{to(0, 3, 0, 1), to(3, 4, 1, 3), to(4, 5, 3, 5)}, api.OK},
		{[]int{lamAlef, lamMadda, space, space, space}, end, []int{lam, alef, lam, madda, space}, []api.Cluster{to(0, 1, 0, 2), to(1, 2, 2, 4), to(2, 5, 4, 5)}, api.OK},
		{[]int{space}, begin, []int{space}, []api.Cluster{to(0, 1, 0, 1)}, api.OK}, {[]int{space}, end, []int{space}, []api.Cluster{to(0, 1, 0, 1)}, api.OK},
		{[]int{space, lamAlef, pile}, begin, []int{lam, alef, shadda, fatha}, []api.Cluster{to(0, 2, 0, 2), to(2, 3, 2, 4)}, api.OK},
		no(begin, lamAlef), no(end, lamAlef), no(begin, lamAlef, space), no(end, space, lamAlef), no(begin, lamAlef, lamMadda), no(end, lamAlef, lamMadda),
		no(begin, space, lamAlef, lamMadda), no(end, lamAlef, lamMadda, space), no(begin, space, behForm, space, lamAlef, lamAlef), no(end, lamAlef, lamAlef, space, behForm, space),
		no(begin, fatha, space, lamAlef), no(end, lamAlef, space, fatha), no(begin, 0xA0, lamAlef), no(end, lamAlef, 0x110020), no(begin, space, space, lamAlef, lamAlef, lamAlef),
	})
}

// P18.2, P18.3: options that may not be are refused as option.Check says, whatever the text.
func TestOptions(t *testing.T) {
	p := props.New()
	flags := []func(o *api.Options){
		func(o *api.Options) {}, func(o *api.Options) { o.Letters = true }, func(o *api.Options) { o.Letters, o.Through = true, true }, func(o *api.Options) { o.Pile = true }, func(o *api.Options) { o.Seen = true },
		func(o *api.Options) { o.Letters, o.Pile = true, true }, func(o *api.Options) { o.Yeh = true }, func(o *api.Options) { o.Marks = true }, func(o *api.Options) { o.Letters, o.Reorder, o.Marks = true, true, true },
	}
	each(4, []int{-1, 0, 1, 2, 3, 4, 5, math.MaxInt}, func(kinds []int) {
		for _, set := range flags {
			o := api.Options{Direction: kinds[0], LamAlef: kinds[1], Tashkeel: kinds[2], Digits: kinds[3]}
			set(&o)
			want := option.Check(o)
			if want == api.OK && o.LamAlef >= api.LamNear {
				want = api.ErrSpace
			}
			l, c, err := unshape.Unshape(p, []int{lamAlef, behForm}, o)
			if err != want || (len(l) == 0 || len(c) == 0) != (want != api.OK) {
				t.Fatalf("Unshape, %v: %#x, %v, %d, not %d", o, l, c, err, want)
			}
			if n, err := unshape.Spaces(p, []int{lamAlef, behForm}, o); err != want || n != 0 {
				t.Fatalf("Spaces, %v: %d, %d, not %d", o, n, err, want)
			}
		}
	})
}

// P18.2, P18.3: of the options that there may be a third, in all ways: no others count than letters, lam and alef, and the tails.
func TestEveryOptions(t *testing.T) {
	m := newModel()
	text := []int{space, lamAlef, accent, space, seenForm, seenTail, bareForm, yehTail, pile, 0x31, 0x28, space}
	for bits := 0; bits < 500*1024; bits += 3 {
		if o, err := option.Of(bits); err == api.OK {
			m.holds(t, text, o)
		}
	}
}

// P18.2, P18.3: every text of up to five codes, in every way.
func TestEach(t *testing.T) {
	m := newModel()
	for _, codes := range [][]int{
		{lamAlef, lamMadda, space, accent, fatha, behForm},
		{seenForm, seenTail, bareForm, yehTail, lamAlef, space},
		{lamAlef, space, pile, 0x200D, beh},
	} {
		for n := range 6 {
			each(n, codes, func(text []int) {
				eachWay(func(o api.Options) { m.holds(t, text, o) })
			})
		}
	}
}

// P18.2: each code between a lam with alef and a space: what is passed over; each as the space; each ahead of a tail, and as one.
func TestEachCode(t *testing.T) {
	m := newModel()
	near, both := ways(api.LamNear, false, false), ways(api.LamOff, true, true)
	check := func(code int) {
		m.holds(t, []int{lamAlef, code, space}, near)
		if code >= 0x600 && code <= 0x6FF || code >= 0xFB50 && code <= 0xFEFF || code < 0x80 || code > api.MaxCode {
			m.holds(t, []int{code, lamAlef}, ways(api.LamBegin, false, false))
			m.holds(t, []int{lamAlef, code}, ways(api.LamEnd, false, false))
			m.holds(t, []int{code, lamAlef, code}, near)
			for _, other := range []int{seenForm, 0xFEF0, seenTail, yehTail} {
				m.holds(t, []int{code, other, code}, both)
			}
		}
	}
	for code := range 0x20000 {
		check(code)
	}
	for code := 0xE0000; code < 0xE0200; code++ {
		check(code)
	}
	for _, code := range noCodes {
		check(code)
	}
}

// Long texts: many lams with alef, with their spaces, many marks between one and its space, many tails.
func TestLong(t *testing.T) {
	const n = 1 << 18
	p := props.New()
	lams, blanks := slices.Repeat([]int{lamAlef}, n), slices.Repeat([]int{space}, n)
	want := slices.Repeat([]int{lam, alef}, n)
	for _, e := range []struct {
		text     []int
		o        api.Options
		want     []int
		clusters int
		spaces   int
	}{
		{lams, ways(api.LamResize, false, false), want, n, 0}, {slices.Repeat([]int{lamAlef, space}, n), ways(api.LamNear, false, false), want, n, 0},
		{slices.Concat(blanks, lams), ways(api.LamBegin, false, false), want, n, n}, {slices.Concat(lams, blanks), ways(api.LamEnd, false, false), want, n, n},
		{slices.Concat(lams[:1], slices.Repeat([]int{accent}, n), blanks[:1]), ways(api.LamNear, false, false), slices.Concat([]int{lam}, slices.Repeat([]int{fatha}, n), []int{alef}), 1, 0},
		{slices.Repeat([]int{seenForm, seenTail, bareForm, yehTail}, n), ways(api.LamOff, true, true), slices.Repeat([]int{seen, yeh}, n), 2 * n, 0},
	} {
		l, c, err := unshape.Unshape(p, e.text, e.o)
		if err != api.OK || !slices.Equal(l, e.want) || len(c) != e.clusters {
			t.Errorf("%v: %d codes, %d clusters, %d", e.o, len(l), len(c), err)
		}
		if k, err := unshape.Spaces(p, e.text, e.o); err != api.OK || k != e.spaces {
			t.Errorf("%v: %d spaces, %d", e.o, k, err)
		}
	}
}

// R3: what is handed in is not changed, its spare room included, and not kept; what is told may be changed, and is told again.
func TestOwnMemory(t *testing.T) {
	m := newModel()
	text := []int{space, lamAlef, accent, space, seenForm, seenTail, pile, lamAlef, lamAlef}
	was := slices.Clone(text)
	for range 2 {
		eachWay(func(o api.Options) {
			l, c, _ := unshape.Unshape(m.Props, text[:7], o)
			m.holds(t, text[:7], o)
			l, c = l[:cap(l)], c[:cap(c)]
			for i := range l {
				l[i] = 9
			}
			for i := range c {
				c[i] = to(9, 9, 9, 9)
			}
		})
		x, _ := unshape.Back(text[:7])
		y, _ := unshape.Back(text[:7])
		x.Set(1, 9)
		x.Behind(9)
		m.told(t, y, text[:7])
		if !slices.Equal(text, was) {
			t.Fatalf("changed: %#x", text)
		}
	}
	kept, _ := unshape.Back(text)
	for i := range text {
		text[i] = 9
	}
	m.told(t, kept, was)
}
