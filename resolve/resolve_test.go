package resolve_test

import (
	"math"
	"slices"
	"testing"

	"naskh/api"
	"naskh/neutral"
	"naskh/props"
	"naskh/resolve"
)

// Classes in fewer words.
const (
	l   = api.L
	r   = api.R
	al  = api.AL
	en  = api.EN
	nsm = api.NSM
	bn  = api.BN
	b   = api.B
	s   = api.S
	ws  = api.WS
	on  = api.ON
	rle = api.RLE
	lri = api.LRI
	fsi = api.FSI
	pdi = api.PDI
)

// Codes that end a paragraph, and some that do not.
const (
	feed      = 0xA
	carriage  = 0xD
	next      = 0x85
	paragraph = 0x2029
	line      = 0x2028
	tab       = 0x9
	alef      = 0x627
	bet       = 0x5D0
)

// noClasses are numbers beside those of classes, what ends in the bits of classes among them.
var noClasses = []int{-1, 23, 24, 0x100 + api.S, 1<<32 + api.WS, 1<<32 + api.B, math.MinInt, math.MinInt + api.PDI, math.MaxInt}

// allClasses tells each class, and what is none.
func allClasses() []int {
	all := slices.Clone(noClasses)
	for class := range 23 {
		all = append(all, class)
	}
	return all
}

// each calls f with every list of n of these.
func each(n int, items []int, f func(list []int)) {
	all := 1
	for range n {
		all *= len(items)
	}
	for which := range all {
		list := make([]int, n)
		for at := range list {
			list[at] = items[which%len(items)]
			which /= len(items)
		}
		f(list)
	}
}

// numbers tells n numbers below limit that look as if they were drawn, always the same ones.
func numbers(n, limit int, seed uint64) []int {
	list := make([]int, n)
	for at := range list {
		seed = seed*6364136223846793005 + 1442695040888963407
		list[at] = int(seed>>33) % limit
	}
	return list
}

// picked tells some of these.
func picked(n int, items []int, seed uint64) []int {
	list := numbers(n, len(items), seed)
	for at, which := range list {
		list[at] = items[which]
	}
	return list
}

// wantLevels tells what Levels is to answer: paragraph by paragraph, each taken from the front of what is left.
func wantLevels(p *props.Props, text []int, direction int) ([]int, []int) {
	var bases, levels []int
	for len(text) > 0 {
		n := 0
		for n < len(text) {
			n++
			if p.Class(text[n-1]) != b || text[n-1] == carriage && n < len(text) && text[n] == feed {
				continue
			}
			break
		}
		base, own := neutral.Levels(slices.Clone(text[:n]), p.Classes(text[:n]), direction)
		bases, levels = append(bases, base), append(levels, own...)
		text = text[n:]
	}
	return bases, levels
}

// checkLevels holds what Levels answers against what it is to answer.
func checkLevels(t *testing.T, p *props.Props, text []int, direction int) {
	t.Helper()
	before := slices.Clone(text)
	bases, levels := resolve.Levels(p, text, direction)
	wantBases, want := wantLevels(p, before, direction)
	if !slices.Equal(bases, wantBases) || !slices.Equal(levels, want) {
		t.Fatalf("Levels of %x, direction %d: %d %d, want %d %d", text, direction, bases, levels, wantBases, want)
	}
	if !slices.Equal(text, before) {
		t.Fatalf("Levels changed %x to %x", before, text)
	}
}

// wantLine tells what Line is to answer, each place looked at by itself, from it on.
func wantLine(classes, levels []int, span api.Span, base int) []int {
	if len(classes) != len(levels) || span.Lo < 0 || span.Lo >= span.Hi || span.Hi > len(classes) {
		return nil
	}
	separates := func(at int) bool { return classes[at] == s || classes[at] == b }
	such := func(at int) bool {
		return slices.Contains([]int{api.WS, api.LRI, api.RLI, api.FSI, api.PDI, api.LRE, api.LRO, api.RLE, api.RLO, api.PDF, api.BN}, classes[at])
	}
	var told []int
	for at := span.Lo; at < span.Hi; at++ {
		end := at
		for end < span.Hi && such(end) {
			end++
		}
		if end == span.Hi || separates(end) {
			told = append(told, base)
		} else {
			told = append(told, levels[at])
		}
	}
	return told
}

// checkLine holds what Line answers against what it is to answer.
func checkLine(t *testing.T, classes, levels []int, span api.Span, base int) {
	t.Helper()
	classesBefore, levelsBefore := slices.Clone(classes), slices.Clone(levels)
	told := resolve.Line(classes, levels, span, base)
	if want := wantLine(classes, levels, span, base); !slices.Equal(told, want) {
		t.Fatalf("Line of %d %d, %v, base %d: %d, want %d", classes, levels, span, base, told, want)
	}
	if !slices.Equal(classes, classesBefore) || !slices.Equal(levels, levelsBefore) {
		t.Fatalf("Line changed %d %d to %d %d", classesBefore, levelsBefore, classes, levels)
	}
}

// distinct tells n levels, each another one.
func distinct(n int) []int {
	levels := make([]int, n)
	for at := range levels {
		levels[at] = 10 + at
	}
	return levels
}

func TestLevelsByHand(t *testing.T) { // P27.1
	p := props.New()
	for _, c := range []struct {
		text      []int
		direction int
		bases     []int
		levels    []int
	}{
		{nil, api.DirRight, nil, nil},
		{[]int{bet, feed, 'a'}, api.DirFirstLeft, []int{1, 0}, []int{1, 1, 0}},
		{[]int{'a', feed, bet}, api.DirFirstRight, []int{0, 1}, []int{0, 0, 1}},
		{[]int{'a', feed, bet}, api.DirLeft, []int{0, 0}, []int{0, 0, 1}},
		{[]int{'a', feed, bet}, api.DirRight, []int{1, 1}, []int{2, 1, 1}},
		{[]int{'a', feed, bet}, 4, []int{0, 0}, []int{0, 0, 1}},
		{[]int{'a', feed, bet}, -1, []int{0, 0}, []int{0, 0, 1}},
		{[]int{'a', feed, bet}, math.MinInt + api.DirRight, []int{0, 0}, []int{0, 0, 1}},
		{[]int{feed}, api.DirFirstRight, []int{1}, []int{1}},
		{[]int{feed, feed}, api.DirFirstLeft, []int{0, 0}, []int{0, 0}},
		{[]int{carriage, feed, alef}, api.DirFirstLeft, []int{0, 1}, []int{0, 0, 1}},
		{[]int{feed, carriage, alef}, api.DirFirstLeft, []int{0, 0, 1}, []int{0, 0, 1}},
		{[]int{bet, paragraph, '1', next, bet, '1'}, api.DirFirstLeft, []int{1, 0, 1}, []int{1, 1, 0, 0, 1, 2}},
		{[]int{bet, line, 'a'}, api.DirFirstLeft, []int{1}, []int{1, 1, 2}},
		{[]int{bet, tab, 'a'}, api.DirFirstLeft, []int{1}, []int{1, 1, 2}},
		// What began in one paragraph ends with it.
		{[]int{0x202E, 'a', feed, 'a'}, api.DirLeft, []int{0, 0}, []int{0, 1, 0, 0}},
		{[]int{0x2067, 'a', feed, 'a', 0x2069}, api.DirLeft, []int{0, 0}, []int{0, 2, 0, 0, 0}},
		// So does what a digit, a bracket or a mark is asked of.
		{[]int{alef, feed, '1'}, api.DirLeft, []int{0, 0}, []int{1, 0, 0}},
		{[]int{bet, '(', feed, bet, ')'}, api.DirLeft, []int{0, 0}, []int{1, 0, 0, 1, 0}},
		{[]int{bet, feed, 0x64E, bet}, api.DirLeft, []int{0, 0}, []int{1, 0, 0, 1}},
		{[]int{-1, feed, math.MaxInt, bet, math.MinInt, bet}, api.DirFirstLeft, []int{0, 1}, []int{0, 0, 1, 1, 1, 1}},
	} {
		bases, levels := resolve.Levels(p, c.text, c.direction)
		if !slices.Equal(bases, c.bases) || !slices.Equal(levels, c.levels) {
			t.Errorf("Levels of %x, direction %d: %d %d, want %d %d", c.text, c.direction, bases, levels, c.bases, c.levels)
		}
	}
}

func TestLevelsOfShortTexts(t *testing.T) { // P27.1
	p := props.New()
	codes := []int{'a', bet, alef, '1', ' ', feed, carriage, paragraph, '(', ')', 0x64E, 0x2067, 0x2069, 0x202D, -1}
	for n := range 5 {
		each(n, codes, func(text []int) {
			for _, direction := range []int{api.DirLeft, api.DirRight, api.DirFirstLeft, api.DirFirstRight} {
				checkLevels(t, p, text, direction)
			}
		})
	}
}

func TestLevelsOfEachCode(t *testing.T) { // P27.1
	p := props.New()
	for code := range api.MaxCode + 2 {
		if code < 0x3000 || code%0x100 == 0 || code > api.MaxCode-3 {
			checkLevels(t, p, []int{alef, code, 'a', bet}, api.DirFirstLeft)
		}
	}
	for _, code := range []int{-1, math.MinInt, math.MaxInt, 1<<32 + feed, math.MinInt + feed, api.IllBase + 0xD83D, api.IllBase + 0xA} {
		checkLevels(t, p, []int{alef, code, 'a', bet}, api.DirFirstLeft)
	}
}

func TestLevelsOfLongTexts(t *testing.T) { // P27.1
	p := props.New()
	codes := []int{'a', bet, alef, '1', 0x661, ' ', '+', ',', '(', ')', '[', ']', feed, carriage, next, tab, paragraph, 0x64E, 0x200B}
	for controls := 0x202A; controls <= 0x202E; controls++ {
		codes = append(codes, controls)
	}
	for isolates := 0x2066; isolates <= 0x2069; isolates++ {
		codes = append(codes, isolates)
	}
	for seed := range uint64(400) {
		text := picked(int(seed)*3, codes, seed+1)
		for direction := -1; direction <= 4; direction++ {
			checkLevels(t, p, text, direction)
		}
	}
}

// A paragraph's levels hang on it alone: P5.
func TestParagraphsStandAlone(t *testing.T) {
	p := props.New()
	codes := []int{'a', bet, '1', '(', ')', 0x64E, 0x2067, 0x2069, 0x202B}
	for seed := range uint64(300) {
		one, other := append(picked(5, codes, seed), paragraph), picked(5, codes, seed+1000)
		for direction := range 4 {
			bases, levels := resolve.Levels(p, slices.Concat(one, other), direction)
			oneBases, oneLevels := resolve.Levels(p, one, direction)
			otherBases, otherLevels := resolve.Levels(p, other, direction)
			if !slices.Equal(bases, slices.Concat(oneBases, otherBases)) || !slices.Equal(levels, slices.Concat(oneLevels, otherLevels)) {
				t.Fatalf("Levels of %x and %x, direction %d: %d %d", one, other, direction, bases, levels)
			}
		}
	}
}

func TestLineByHand(t *testing.T) { // P27.2
	for _, c := range []struct {
		classes, levels []int
		span            api.Span
		base            int
		want            []int
	}{
		{[]int{r, ws}, []int{1, 1}, api.Span{Hi: 2}, 0, []int{1, 0}},
		{[]int{r, ws, s, r, ws}, []int{1, 1, 1, 1, 1}, api.Span{Hi: 5}, 0, []int{1, 0, 0, 1, 0}},
		{[]int{r, ws, s, r, ws}, []int{1, 1, 1, 1, 1}, api.Span{Lo: 1, Hi: 4}, 0, []int{0, 0, 1}},
		{[]int{r, ws, r, ws, s}, []int{1, 1, 1, 1, 1}, api.Span{Hi: 2}, 0, []int{1, 0}},
		{[]int{r, ws, r, ws, s}, []int{1, 1, 1, 1, 1}, api.Span{Hi: 4}, 0, []int{1, 1, 1, 0}},
		{[]int{ws, bn, rle, lri, pdi, b}, []int{3, 3, 3, 3, 3, 3}, api.Span{Hi: 6}, 1, []int{1, 1, 1, 1, 1, 1}},
		{[]int{ws, bn, rle, lri, pdi, on}, []int{3, 3, 3, 3, 3, 3}, api.Span{Hi: 6}, 1, []int{3, 3, 3, 3, 3, 3}},
		{[]int{ws, nsm, fsi, s, s, l}, []int{3, 3, 3, 3, 3, 2}, api.Span{Hi: 6}, 1, []int{3, 3, 1, 1, 1, 2}},
		{[]int{en, ws, al, ws}, []int{2, 1, 1, 1}, api.Span{Hi: 4}, -7, []int{2, 1, 1, -7}},
		{[]int{b, r}, []int{1, 1}, api.Span{Hi: 2}, math.MaxInt, []int{math.MaxInt, 1}},
		// What may not be.
		{nil, nil, api.Span{}, 0, nil},
		{[]int{r, ws}, []int{1}, api.Span{Hi: 1}, 0, nil},
		{[]int{r}, []int{1, 1}, api.Span{Hi: 1}, 0, nil},
		{[]int{r, ws}, []int{1, 1}, api.Span{Lo: 1, Hi: 1}, 0, nil},
		{[]int{r, ws}, []int{1, 1}, api.Span{Lo: 2, Hi: 1}, 0, nil},
		{[]int{r, ws}, []int{1, 1}, api.Span{Lo: -1, Hi: 1}, 0, nil},
		{[]int{r, ws}, []int{1, 1}, api.Span{Hi: 3}, 0, nil},
		{[]int{r, ws}, []int{1, 1}, api.Span{Lo: 2, Hi: 3}, 0, nil},
		{[]int{r, ws}, []int{1, 1}, api.Span{Lo: math.MinInt, Hi: math.MaxInt}, 0, nil},
	} {
		if told := resolve.Line(c.classes, c.levels, c.span, c.base); !slices.Equal(told, c.want) {
			t.Errorf("Line of %d %d, %v, base %d: %d, want %d", c.classes, c.levels, c.span, c.base, told, c.want)
		}
	}
}

// Each class at the end, ahead of a separator, and ahead of what stays: P27.2.
func TestLineOfEachClass(t *testing.T) {
	for _, class := range allClasses() {
		for _, other := range allClasses() {
			for _, last := range []int{l, on, ws, s, b} {
				classes := []int{class, other, last}
				for lo := -1; lo <= 3; lo++ {
					for hi := -1; hi <= 4; hi++ {
						checkLine(t, classes, distinct(3), api.Span{Lo: lo, Hi: hi}, 0)
					}
				}
			}
		}
	}
}

func TestLineOfShortLists(t *testing.T) { // P27.2
	for n := range 6 {
		each(n, []int{l, on, ws, pdi, bn, s, b}, func(classes []int) {
			for lo := range n {
				for hi := lo; hi <= n; hi++ {
					checkLine(t, classes, distinct(n), api.Span{Lo: lo, Hi: hi}, 3)
				}
			}
		})
	}
}

func TestLineOfListsOfOtherLengths(t *testing.T) { // P27.2
	for classes := range 4 {
		for levels := range 4 {
			for hi := range 4 {
				checkLine(t, make([]int, classes), make([]int, levels), api.Span{Hi: hi}, 1)
			}
		}
	}
}

func TestLineOfLongLists(t *testing.T) { // P27.2
	for seed := range uint64(1000) {
		n := int(seed)%60 + 1
		ends := numbers(2, n+1, seed)
		classes := picked(n, allClasses(), seed)
		levels := numbers(n, 127, seed+5)
		checkLine(t, classes, levels, api.Span{Lo: min(ends[0], ends[1]), Hi: max(ends[0], ends[1])}, int(seed%2))
		checkLine(t, classes, levels, api.Span{Hi: n}, math.MinInt+int(seed))
	}
}

// A strong place has its level whatever is around it: P27.3.
func TestStrongPlacesKeepTheirLevels(t *testing.T) {
	for seed := range uint64(1000) {
		classes := picked(30, allClasses(), seed)
		levels := numbers(30, 127, seed+9)
		lo := int(seed) % 15
		for at, level := range resolve.Line(classes, levels, api.Span{Lo: lo, Hi: 28}, -1) {
			if strong := slices.Contains([]int{l, r, al}, classes[lo+at]); strong && level != levels[lo+at] {
				t.Fatalf("Line of %d %d from %d: %d at %d", classes, levels, lo, level, at)
			}
		}
	}
}

// What is answered is its own, and has nothing of an argument behind it: R3.
func TestOwnMemory(t *testing.T) {
	p := props.New()
	text := []int{bet, feed, 'a', 0x2067, '1'}
	bases, levels := resolve.Levels(p, text, api.DirFirstLeft)
	basesBefore, levelsBefore := slices.Clone(bases), slices.Clone(levels)
	for _, list := range [][]int{bases, levels} {
		list = list[:cap(list)]
		for at := range list {
			list[at] = 99
		}
	}
	if again, all := resolve.Levels(p, text, api.DirFirstLeft); !slices.Equal(again, basesBefore) || !slices.Equal(all, levelsBefore) {
		t.Error("Levels is not what it was")
	}

	classes, many := []int{r, ws, s, r, ws}, []int{1, 2, 3, 4, 5}
	told := resolve.Line(classes, many, api.Span{Lo: 1, Hi: 3}, 0)
	told = told[:cap(told)]
	for at := range told {
		told[at] = 99
	}
	if !slices.Equal(classes, []int{r, ws, s, r, ws}) || !slices.Equal(many, []int{1, 2, 3, 4, 5}) {
		t.Error("Line shares what it was given", classes, many)
	}
}

// Texts of the greatest size, as one paragraph and as many.
func TestMaxText(t *testing.T) {
	p := props.New()
	one := slices.Repeat([]int{bet, ' ', 'a', '1'}, api.MaxText/4)
	bases, levels := resolve.Levels(p, one, api.DirFirstLeft)
	if !slices.Equal(bases, []int{1}) || !slices.Equal(levels, slices.Repeat([]int{1, 1, 2, 2}, api.MaxText/4)) {
		t.Error("Levels of one paragraph")
	}
	many := slices.Repeat([]int{bet, feed, 'a', feed}, api.MaxText/4)
	bases, levels = resolve.Levels(p, many, api.DirFirstLeft)
	if !slices.Equal(bases, slices.Repeat([]int{1, 0}, api.MaxText/4)) || !slices.Equal(levels, slices.Repeat([]int{1, 1, 0, 0}, api.MaxText/4)) {
		t.Error("Levels of many paragraphs")
	}
	classes := slices.Repeat([]int{ws}, api.MaxText)
	told := resolve.Line(classes, levels, api.Span{Hi: api.MaxText}, 7)
	if !slices.Equal(told, slices.Repeat([]int{7}, api.MaxText)) {
		t.Error("Line")
	}
}
