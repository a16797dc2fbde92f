package para_test

import (
	"math"
	"slices"
	"testing"

	"naskh/api"
	"naskh/para"
	"naskh/props"
	"naskh/span"
)

// Codes in words.
const (
	latin = 0x61
	alef  = 0x627
	cr    = 0xD
	lf    = 0xA
	next  = 0x85
	apart = 0x2029 // separates paragraphs
)

// noClasses are numbers beside those of classes, what ends in the bits of classes among them.
var noClasses = []int{-1, 23, 24, 0x100 + api.PDI, 1<<32 + api.R, 1<<32 + api.FSI, math.MinInt, math.MinInt + api.LRI, math.MaxInt}

// directions are those that are known, and what is none.
var directions = []int{api.DirLeft, api.DirRight, api.DirFirstLeft, api.DirFirstRight, 4, 5, -1, -3, math.MinInt, math.MinInt + 1, 1<<32 + 1, 1<<32 + 3, math.MaxInt}

// of is a span in fewer words.
func of(lo, hi int) api.Span { return api.Span{Lo: lo, Hi: hi} }

// each calls f with every list of n of these.
func each(n int, items []int, f func(list []int)) {
	all := 1
	for range n {
		all *= len(items)
	}
	for which := range all {
		list := make([]int, n)
		for at := range list {
			list[at] = items[which%len(items)]
			which /= len(items)
		}
		f(list)
	}
}

// split tells what Split is to answer: where one of B stands ahead of a place, a paragraph begins there.
func split(p *props.Props, text []int) []api.Span {
	var begins []int
	for at := range text {
		if at == 0 || p.Class(text[at-1]) == api.B && !slices.Equal(text[at-1:at+1], []int{cr, lf}) {
			begins = append(begins, at)
		}
	}
	var l []api.Span
	for i, begin := range begins {
		l = append(l, of(begin, append(begins, len(text))[i+1]))
	}
	return l
}

// isolate says whether a class is LRI, RLI or FSI.
func isolate(class int) bool { return slices.Contains([]int{api.LRI, api.RLI, api.FSI}, class) }

// ended tells where what begins at a place ends, going on from there.
func ended(classes []int, at int) int {
	open := 0
	for i := at; i < len(classes); i++ {
		if isolate(classes[i]) {
			open++
		}
		if classes[i] == api.PDI {
			open--
		}
		if open == 0 {
			return i
		}
	}
	return len(classes)
}

// matches tells what Matches is to answer.
func matches(classes []int) []int {
	l := slices.Repeat([]int{-1}, len(classes))
	for at, class := range classes {
		if !isolate(class) {
			continue
		}
		l[at] = ended(classes, at)
		if l[at] < len(classes) {
			l[l[at]] = at
		}
	}
	return l
}

// first tells what First is to answer, place by place, each held against all that begins ahead of it in the span.
func first(classes []int, s api.Span) int {
	for at := max(s.Lo, 0); at < min(s.Hi, len(classes)); at++ {
		within := false
		for ahead := max(s.Lo, 0); ahead < at; ahead++ {
			within = within || isolate(classes[ahead]) && ended(classes, ahead) > at
		}
		switch {
		case within:
		case classes[at] == api.L:
			return 0
		case classes[at] == api.R || classes[at] == api.AL:
			return 1
		}
	}
	return -1
}

// level tells what Level is to answer.
func level(classes []int, direction int) int {
	is := first(classes, of(0, len(classes)))
	switch {
	case direction == api.DirRight, direction == api.DirFirstRight && is != 0, direction == api.DirFirstLeft && is == 1:
		return 1
	}
	return 0
}

// P20.1, P20.4: Split, by hand: what ends a paragraph, alone, twice, at the end; what goes together, and what does not.
func TestSplit(t *testing.T) {
	p := props.New()
	for _, e := range []struct {
		text []int
		want []api.Span
	}{
		{nil, nil}, {[]int{}, nil}, {[]int{latin}, []api.Span{of(0, 1)}}, {[]int{latin, alef, 0x20}, []api.Span{of(0, 3)}},
		{[]int{lf}, []api.Span{of(0, 1)}}, {[]int{cr}, []api.Span{of(0, 1)}}, {[]int{cr, lf}, []api.Span{of(0, 2)}}, {[]int{lf, cr}, []api.Span{of(0, 1), of(1, 2)}},
		{[]int{cr, cr, lf}, []api.Span{of(0, 1), of(1, 3)}}, {[]int{cr, lf, lf}, []api.Span{of(0, 2), of(2, 3)}}, {[]int{cr, lf, cr, lf}, []api.Span{of(0, 2), of(2, 4)}},
		{[]int{latin, lf, alef}, []api.Span{of(0, 2), of(2, 3)}}, {[]int{latin, lf}, []api.Span{of(0, 2)}}, {[]int{lf, latin}, []api.Span{of(0, 1), of(1, 2)}},
		{[]int{latin, cr, lf, alef}, []api.Span{of(0, 3), of(3, 4)}}, {[]int{cr, latin, lf}, []api.Span{of(0, 1), of(1, 3)}}, {[]int{cr, 0x20, lf}, []api.Span{of(0, 1), of(1, 3)}},
		{[]int{next, apart, 0x1C, 0x1D, 0x1E}, []api.Span{of(0, 1), of(1, 2), of(2, 3), of(3, 4), of(4, 5)}}, {[]int{cr, next, lf}, []api.Span{of(0, 1), of(1, 2), of(2, 3)}},
		{[]int{0x9, 0xB, 0xC, 0x1F, 0x2028, 0x20}, []api.Span{of(0, 6)}}, {[]int{-1, 0x11000A, math.MaxInt, 1<<32 | lf, math.MinInt | cr, lf, latin}, []api.Span{of(0, 6), of(6, 7)}},
	} {
		if l := para.Split(p, e.text); !slices.Equal(l, e.want) {
			t.Errorf("Split(%#x): %v", e.text, l)
		}
	}
}

// P20.1, P20.4: every text of up to six codes; what comes is Parts of it.
func TestSplitEach(t *testing.T) {
	p := props.New()
	for n := range 7 {
		each(n, []int{latin, alef, cr, lf, apart}, func(text []int) {
			l := para.Split(p, text)
			if !slices.Equal(l, split(p, text)) || !span.Parts(l, n) {
				t.Fatalf("Split(%#x): %v", text, l)
			}
		})
	}
}

// P20.1: each code between two others, and what is no code.
func TestSplitEachCode(t *testing.T) {
	p := props.New()
	check := func(code int) {
		for _, text := range [][]int{{latin, code, alef}, {cr, code, lf}} {
			if l := para.Split(p, text); !slices.Equal(l, split(p, text)) {
				t.Fatalf("Split(%#x): %v", text, l)
			}
		}
	}
	for code := range api.MaxCode + 1 {
		check(code)
	}
	for _, code := range []int{-1, -cr, math.MinInt, math.MinInt + lf, 0x110000, 0x11000A, 0x11D800, 1<<32 | lf, 1<<32 | cr, math.MaxInt} {
		check(code)
	}
}

// P20.2: Matches, by hand: one within another, one behind the other, too many of each, and what is none.
func TestMatches(t *testing.T) {
	for _, e := range []struct{ classes, want []int }{
		{nil, nil}, {[]int{}, nil}, {[]int{api.L, api.R, api.B, api.RLE, api.PDF}, []int{-1, -1, -1, -1, -1}},
		{[]int{api.RLI, api.R, api.PDI, api.L}, []int{2, -1, 0, -1}}, {[]int{api.LRI, api.PDI}, []int{1, 0}}, {[]int{api.FSI, api.PDI}, []int{1, 0}},
		{[]int{api.PDI}, []int{-1}}, {[]int{api.PDI, api.LRI}, []int{-1, 2}}, {[]int{api.LRI}, []int{1}}, {[]int{api.LRI, api.RLI, api.FSI}, []int{3, 3, 3}},
		{[]int{api.LRI, api.RLI, api.PDI}, []int{3, 2, 1}}, {[]int{api.LRI, api.RLI, api.PDI, api.PDI, api.PDI}, []int{3, 2, 1, 0, -1}},
		{[]int{api.LRI, api.PDI, api.PDI, api.FSI, api.PDI}, []int{1, 0, -1, 4, 3}}, {[]int{api.LRI, api.B, api.PDI}, []int{2, -1, 0}}, {[]int{api.LRI, api.RLE, api.PDI, api.PDF}, []int{2, -1, 0, -1}},
		{[]int{-1, api.LRI, 23, math.MaxInt, api.PDI, math.MinInt}, []int{-1, 4, -1, -1, 1, -1}},
	} {
		if l := para.Matches(e.classes); !slices.Equal(l, e.want) {
			t.Errorf("Matches(%v): %v", e.classes, l)
		}
	}
}

// P20.2, P20.5: every list of up to seven classes; who goes with whom is told by both.
func TestMatchesEach(t *testing.T) {
	for n := range 8 {
		each(n, []int{api.LRI, api.RLI, api.FSI, api.PDI, api.B}, func(classes []int) {
			l := para.Matches(classes)
			if !slices.Equal(l, matches(classes)) {
				t.Fatalf("Matches(%v): %v", classes, l)
			}
			for i, j := range l {
				if j >= 0 && j < n && l[j] != i {
					t.Fatalf("Matches(%v): %v", classes, l)
				}
			}
		})
	}
}

// P20.2, P20.3: each class, and what is none, where it begins, ends, and is the first one.
func TestEachClass(t *testing.T) {
	all := slices.Clone(noClasses)
	for class := range api.PDI + 1 {
		all = append(all, class)
	}
	for n := range 4 {
		each(n, all, func(classes []int) {
			if l := para.Matches(classes); !slices.Equal(l, matches(classes)) {
				t.Fatalf("Matches(%v): %v", classes, l)
			}
			if is := para.First(classes, of(0, n)); is != first(classes, of(0, n)) {
				t.Fatalf("First(%v): %d", classes, is)
			}
			for _, direction := range directions {
				if is := para.Level(classes, direction); is != level(classes, direction) {
					t.Fatalf("Level(%v, %d): %d", classes, direction, is)
				}
			}
		})
	}
}

// P20.3: First, by hand: what stands apart, with its end, without one, with an end that lies ahead of the span or behind it; spans that lie outside.
func TestFirst(t *testing.T) {
	apart := []int{api.RLI, api.R, api.PDI, api.L}
	for _, e := range []struct {
		classes []int
		s       api.Span
		want    int
	}{
		{nil, of(0, 0), -1}, {nil, of(-1, 5), -1}, {[]int{api.L}, of(0, 1), 0}, {[]int{api.R}, of(0, 1), 1}, {[]int{api.AL}, of(0, 1), 1}, {[]int{api.EN, api.AN, api.NSM, api.B, api.ON}, of(0, 5), -1},
		{[]int{api.EN, api.R, api.L}, of(0, 3), 1}, {[]int{api.WS, api.L, api.AL}, of(0, 3), 0}, {[]int{api.RLE, api.L}, of(0, 2), 0}, {[]int{api.B, api.R}, of(0, 2), 1},
		{apart, of(0, 4), 0}, {apart, of(0, 3), -1}, {apart, of(0, 2), -1}, {apart, of(1, 4), 1}, {apart, of(1, 2), 1}, {apart, of(2, 4), 0}, {apart, of(3, 4), 0}, {apart, of(4, 4), -1},
		{[]int{api.LRI, api.R}, of(0, 2), -1}, {[]int{api.FSI, api.FSI, api.PDI, api.L}, of(0, 4), -1}, {[]int{api.FSI, api.LRI, api.R, api.PDI, api.R, api.PDI, api.L}, of(0, 7), 0},
		{[]int{api.PDI, api.R}, of(0, 2), 1}, {[]int{api.PDI, api.LRI, api.R}, of(0, 3), -1}, {[]int{api.PDI, api.PDI, api.LRI, api.R, api.PDI, api.AL}, of(0, 6), 1},
		{apart, of(-5, 10), 0}, {apart, of(math.MinInt, math.MaxInt), 0}, {apart, of(math.MinInt, 0), -1}, {apart, of(1, math.MaxInt), 1}, {apart, of(4, math.MaxInt), -1}, {apart, of(math.MaxInt, math.MaxInt), -1},
		{apart, of(2, 1), -1}, {apart, of(3, 0), -1}, {apart, of(3, -1), -1}, {apart, of(math.MaxInt, math.MinInt), -1}, {apart, of(5, 2), -1}, {apart, of(-2, -1), -1},
	} {
		if is := para.First(e.classes, e.s); is != e.want {
			t.Errorf("First(%v, %v): %d", e.classes, e.s, is)
		}
	}
}

// P20.3: every list of up to five classes, with every span, also such as lie outside, or are none.
func TestFirstEach(t *testing.T) {
	for n := range 6 {
		each(n, []int{api.L, api.R, api.AL, api.FSI, api.PDI, api.EN}, func(classes []int) {
			for lo := -1; lo <= n+1; lo++ {
				for hi := -1; hi <= n+1; hi++ {
					if is := para.First(classes, of(lo, hi)); is != first(classes, of(lo, hi)) {
						t.Fatalf("First(%v, %d %d): %d", classes, lo, hi, is)
					}
				}
			}
		})
	}
}

// P20.3: Level, by hand: each direction, with a first one and without; what is no direction.
func TestLevel(t *testing.T) {
	apart, none := []int{api.RLI, api.R, api.PDI, api.L}, []int{api.EN, api.WS}
	for _, e := range []struct {
		classes []int
		want    [4]int
	}{
		{nil, [4]int{0, 1, 0, 1}}, {none, [4]int{0, 1, 0, 1}}, {[]int{api.L}, [4]int{0, 1, 0, 0}}, {[]int{api.R}, [4]int{0, 1, 1, 1}}, {[]int{api.EN, api.AL, api.L}, [4]int{0, 1, 1, 1}},
		{apart, [4]int{0, 1, 0, 0}}, {apart[:3], [4]int{0, 1, 0, 1}}, {[]int{api.FSI, api.L}, [4]int{0, 1, 0, 1}}, {[]int{api.LRI, api.L, api.PDI, api.R}, [4]int{0, 1, 1, 1}},
	} {
		for i, direction := range directions {
			want := 0
			if i < len(e.want) {
				want = e.want[i]
			}
			if is := para.Level(e.classes, direction); is != want {
				t.Errorf("Level(%v, %d): %d", e.classes, direction, is)
			}
		}
	}
}

// Long lists: as many paragraphs as codes, many within one another, many that begin and do not end, a first one behind all.
func TestLong(t *testing.T) {
	const n = api.MaxText
	p := props.New()
	if l := para.Split(p, slices.Repeat([]int{lf}, n)); len(l) != n || !span.Parts(l, n) {
		t.Errorf("%d paragraphs", len(l))
	}
	if l := para.Split(p, slices.Repeat([]int{cr, lf}, n/2)); len(l) != n/2 || !span.Parts(l, n) {
		t.Errorf("%d paragraphs", len(l))
	}
	begins, end := slices.Repeat([]int{api.RLI}, n/2), slices.Repeat([]int{api.PDI}, n/2)
	for i, j := range para.Matches(slices.Concat(begins, end)) {
		if j != n-1-i {
			t.Fatalf("%d goes with %d", i, j)
		}
	}
	for i, j := range para.Matches(begins) {
		if j != n/2 {
			t.Fatalf("%d goes with %d", i, j)
		}
	}
	if is := para.First(slices.Concat(begins, end, []int{api.AL}), of(0, n+1)); is != 1 {
		t.Error(is)
	}
	if is := para.Level(slices.Concat(begins, end[1:], []int{api.L}), api.DirFirstRight); is != 1 {
		t.Error(is)
	}
}

// R3, R5: what is handed in is not changed, its spare room included, and not kept; what is told may be changed, and is told again; what New did not make is no fault.
func TestOwnMemory(t *testing.T) {
	p := props.New()
	text, classes := []int{latin, cr, lf, alef, lf, latin, lf}, []int{api.FSI, api.R, api.PDI, api.L, api.PDI, api.FSI}
	wasText, wasClasses := slices.Clone(text), slices.Clone(classes)
	for range 2 {
		spans, places := para.Split(p, text[:5]), para.Matches(classes[:4])
		if !slices.Equal(spans, []api.Span{of(0, 3), of(3, 5)}) || !slices.Equal(places, []int{2, -1, 0, -1}) {
			t.Fatalf("%v, %v", spans, places)
		}
		para.First(classes[:4], of(0, 9))
		para.Level(classes[:4], api.DirFirstLeft)
		spans, places = spans[:cap(spans)], places[:cap(places)]
		for i := range spans {
			spans[i] = of(9, 9)
		}
		for i := range places {
			places[i] = 9
		}
		if !slices.Equal(text, wasText) || !slices.Equal(classes, wasClasses) {
			t.Fatalf("changed: %#x, %v", text, classes)
		}
	}
	para.Split(nil, text)
	para.Split(&props.Props{}, text)
}
