package explicit_test

import (
	"math"
	"slices"
	"testing"

	"naskh/api"
	"naskh/explicit"
)

// Classes in fewer words.
const (
	l   = api.L
	r   = api.R
	al  = api.AL
	on  = api.ON
	bn  = api.BN
	b   = api.B
	lre = api.LRE
	lro = api.LRO
	rle = api.RLE
	rlo = api.RLO
	pdf = api.PDF
	lri = api.LRI
	rli = api.RLI
	fsi = api.FSI
	pdi = api.PDI
)

// noClasses are numbers beside those of classes, what ends in the bits of classes among them.
var noClasses = []int{-1, 23, 24, 0x100 + api.RLO, 1<<32 + api.R, 1<<32 + api.FSI, math.MinInt, math.MinInt + api.LRI, math.MaxInt}

// each calls f with every list of n of these.
func each(n int, items []int, f func(list []int)) {
	all := 1
	for range n {
		all *= len(items)
	}
	for which := range all {
		list := make([]int, n)
		for at := range list {
			list[at] = items[which%len(items)]
			which /= len(items)
		}
		f(list)
	}
}

// begun is an embedding or an isolate that has begun: those of too many have no level of their own.
type begun struct {
	level, override  int
	isolate, tooMany bool
}

// model goes through a paragraph by the rules X1 to X8 in another way than the program: all that has begun lies in one list, what was too many also.
type model struct {
	classes []int
	open    []begun
}

// holds tells the last one that has a level.
func (m *model) holds() begun {
	at := len(m.open) - 1
	for m.open[at].tooMany {
		at--
	}
	return m.open[at]
}

func (m *model) begin(right, isolate bool, override int) {
	level := m.holds().level + 1
	if level%2 == 1 != right {
		level++
	}
	last := m.open[len(m.open)-1]
	tooMany := level > 125 || last.tooMany
	m.open = append(m.open, begun{level, override, isolate, tooMany})
}

// endEmbed ends the last one, if it is an embedding; an embedding in an isolate of too many is not known of, so nothing may end there.
func (m *model) endEmbed() {
	last := len(m.open) - 1
	if last > 0 && !m.open[last].isolate {
		m.open = m.open[:last]
	}
}

// endIsolate ends the last isolate, with all embeddings in it.
func (m *model) endIsolate() {
	for at := len(m.open) - 1; at > 0; at-- {
		if m.open[at].isolate {
			m.open = m.open[:at]
			return
		}
	}
}

// first tells whether the first strong class from here on, within what stands apart here, is one from the right.
func (m *model) first(at int) bool {
	depth := 0
	for _, class := range m.classes[at:] {
		switch class {
		case lri, rli, fsi:
			depth++
		case pdi:
			if depth == 0 {
				return false
			}
			depth--
		case l, r, al:
			if depth == 0 {
				return class != l
			}
		}
	}
	return false
}

func (m *model) other(class int) int {
	if override := m.holds().override; override != on {
		return override
	}
	return class
}

// want tells what Levels is to answer.
func want(classes []int, level int) ([]int, []int) {
	level = min(max(level, 0), 1)
	m := &model{classes, []begun{{level: level, override: on}}}
	var levels, others []int
	put := func(level, class int) { levels, others = append(levels, level), append(others, class) }
	for at, class := range classes {
		switch class {
		case rle, lre:
			put(m.holds().level, bn)
			m.begin(class == rle, false, on)
		case rlo:
			put(m.holds().level, bn)
			m.begin(true, false, r)
		case lro:
			put(m.holds().level, bn)
			m.begin(false, false, l)
		case rli, lri, fsi:
			put(m.holds().level, m.other(class))
			m.begin(class == rli || class == fsi && m.first(at+1), true, on)
		case pdi:
			m.endIsolate()
			put(m.holds().level, m.other(class))
		case pdf:
			put(m.holds().level, bn)
			m.endEmbed()
		case b:
			put(level, b)
		case bn:
			put(m.holds().level, bn)
		default:
			put(m.holds().level, m.other(class))
		}
	}
	return levels, others
}

// check holds what Levels answers against what it is to answer, and against the chapter's bounds.
func check(t *testing.T, classes []int, level int) {
	t.Helper()
	before := slices.Clone(classes)
	levels, others := explicit.Levels(classes, level)
	wantLevels, wantOthers := want(before, level)
	if !slices.Equal(levels, wantLevels) || !slices.Equal(others, wantOthers) {
		t.Fatalf("Levels(%v, %d): %v %v, asked for %v %v", before, level, levels, others, wantLevels, wantOthers)
	}
	if !slices.Equal(classes, before) {
		t.Fatalf("Levels changes the classes %v to %v", before, classes)
	}
	for at := range levels {
		if levels[at] < min(max(level, 0), 1) || levels[at] > api.MaxDepth {
			t.Fatalf("Levels(%v, %d): level %d of place %d", before, level, levels[at], at)
		}
	}
}

func TestLeft(t *testing.T) {
	left := []int{lre, lro, rle, rlo, pdf, bn}
	for class := -2000; class <= 2000; class++ {
		if explicit.Left(class) != slices.Contains(left, class) {
			t.Errorf("Left(%d): %v", class, explicit.Left(class))
		}
	}
	for _, class := range noClasses {
		if explicit.Left(class) {
			t.Errorf("Left(%d)", class)
		}
	}
}

func TestLevels(t *testing.T) {
	tests := []struct {
		level           int
		classes         []int
		levels, onwards []int
	}{
		{0, []int{}, []int{}, []int{}},
		{0, nil, nil, nil},
		{0, []int{rlo, l, pdf, l}, []int{0, 1, 1, 0}, []int{bn, r, bn, l}},
		{1, []int{rlo, l, pdf, l}, []int{1, 3, 3, 1}, []int{bn, r, bn, l}},
		{0, []int{rle, l, pdf, l}, []int{0, 1, 1, 0}, []int{bn, l, bn, l}},
		{0, []int{lre, r, pdf, r}, []int{0, 2, 2, 0}, []int{bn, r, bn, r}},
		{1, []int{lro, r, pdf, r}, []int{1, 2, 2, 1}, []int{bn, l, bn, r}},
		{0, []int{rli, r, pdi, r}, []int{0, 1, 0, 0}, []int{rli, r, pdi, r}},
		{1, []int{lri, r, pdi, r}, []int{1, 2, 1, 1}, []int{lri, r, pdi, r}},
		// every class that an override changes, and the two that it leaves
		{0, []int{rlo, api.EN, api.NSM, api.S, api.WS, on, al, bn, b, lri}, []int{0, 1, 1, 1, 1, 1, 1, 1, 0, 1}, []int{bn, r, r, r, r, r, r, bn, b, r}},
		{0, []int{lro, rli, al, pdi, al, fsi, l, pdi}, []int{0, 2, 3, 2, 2, 2, 4, 2}, []int{bn, l, al, l, l, l, l, l}},
		// what ends where nothing began
		{0, []int{pdf, pdi, l}, []int{0, 0, 0}, []int{bn, pdi, l}},
		{0, []int{rle, pdi, l}, []int{0, 1, 1}, []int{bn, pdi, l}},
		{0, []int{rli, pdf, r}, []int{0, 1, 1}, []int{rli, bn, r}},
		// what stands apart ends what began in it
		{0, []int{rli, lro, rlo, r, pdi, r, pdf, r}, []int{0, 1, 2, 3, 0, 0, 0, 0}, []int{rli, bn, bn, r, pdi, r, bn, r}},
		// the first strong one, up to its end, beside what stands apart in it
		{0, []int{fsi, on, r, pdi, l}, []int{0, 1, 1, 0, 0}, []int{fsi, on, r, pdi, l}},
		{0, []int{fsi, al, l}, []int{0, 1, 1}, []int{fsi, al, l}},
		{0, []int{fsi, on, l, r, pdi}, []int{0, 2, 2, 2, 0}, []int{fsi, on, l, r, pdi}},
		{0, []int{fsi, on, pdi, r}, []int{0, 2, 0, 0}, []int{fsi, on, pdi, r}},
		{1, []int{fsi, on, pdi, r}, []int{1, 2, 1, 1}, []int{fsi, on, pdi, r}},
		{0, []int{fsi, rli, r, pdi, l, pdi}, []int{0, 2, 3, 2, 2, 0}, []int{fsi, rli, r, pdi, l, pdi}},
		{0, []int{fsi, lri, l, pdi, r, pdi}, []int{0, 1, 2, 1, 1, 0}, []int{fsi, lri, l, pdi, r, pdi}},
		{0, []int{fsi, lri, r, l}, []int{0, 2, 4, 4}, []int{fsi, lri, r, l}},
		// an embedding is not strong, but what lies in it may be
		{0, []int{fsi, rle, pdf, l, pdi}, []int{0, 2, 3, 2, 0}, []int{fsi, bn, bn, l, pdi}},
		{0, []int{fsi, lre, r, pdf, l, pdi}, []int{0, 1, 2, 2, 1, 0}, []int{fsi, bn, r, bn, l, pdi}},
		// B has the paragraph's level, and ends nothing of what the paragraph began
		{1, []int{lre, b, r, pdf, r}, []int{1, 1, 2, 2, 1}, []int{bn, b, r, bn, r}},
		// other levels of the paragraph
		{2, []int{l, lre, l}, []int{1, 1, 2}, []int{l, bn, l}},
		{math.MaxInt, []int{l}, []int{1}, []int{l}},
		{-1, []int{l, rle, l}, []int{0, 0, 1}, []int{l, bn, l}},
		{math.MinInt, []int{b}, []int{0}, []int{b}},
	}
	for _, test := range tests {
		levels, others := explicit.Levels(test.classes, test.level)
		if !slices.Equal(levels, test.levels) || !slices.Equal(others, test.onwards) {
			t.Errorf("Levels(%v, %d): %v %v, asked for %v %v", test.classes, test.level, levels, others, test.levels, test.onwards)
		}
	}
}

// TestLevelsEach goes through every text of a few classes.
func TestLevelsEach(t *testing.T) {
	items := []int{l, r, api.EN, bn, b, lre, lro, rle, rlo, pdf, lri, rli, fsi, pdi}
	for n := range 6 {
		each(n, items, func(classes []int) {
			for level := range 2 {
				check(t, classes, level)
			}
		})
	}
	each(8, []int{al, l, pdf, rli, fsi, pdi}, func(classes []int) { check(t, classes, 1) })
	each(7, []int{on, l, pdf, rlo, lre, lri, pdi}, func(classes []int) { check(t, classes, 0) })
}

// TestLevelsEachClass puts each class, and what is none, where something holds of it.
func TestLevelsEachClass(t *testing.T) {
	all := slices.Clone(noClasses)
	for class := -3; class < 30; class++ {
		all = append(all, class)
	}
	for _, class := range all {
		for level := range 2 {
			for _, around := range []int{l, rlo, lro, rle, rli, fsi, pdf, pdi} {
				check(t, []int{around, class, r, pdf, class, pdi, class}, level)
				check(t, []int{around, around, class, fsi, class, pdi, b, class}, level)
			}
		}
	}
}

// TestLevelsOf takes any number as the level of a paragraph.
func TestLevelsOf(t *testing.T) {
	for _, level := range []int{-1, -2, 2, 3, 125, 126, 127, 1 << 32, 1<<32 + 1, math.MinInt, math.MinInt + 1, math.MaxInt} {
		each(3, []int{l, r, b, rlo, lri, fsi, pdi, pdf}, func(classes []int) { check(t, classes, level) })
	}
}

// row is a class many times.
func row(class, n int) []int { return slices.Repeat([]int{class}, n) }

// TestLevelsDeep begins more than there may be, and ends it.
func TestLevelsDeep(t *testing.T) {
	begins := [][]int{{rle}, {lre}, {rlo}, {lro}, {rli}, {lri}, {fsi}, {rle, lre}, {rli, lri}, {fsi, r, fsi}, {lre, rli}, {rlo, fsi, al}, {rli, lro}}
	for _, begin := range begins {
		for _, n := range []int{30, 60, 61, 62, 63, 64, 65, 123, 124, 125, 126, 127, 130} {
			for _, first := range [][]int{nil, {l}, {rle}, {lri}} {
				deep := slices.Concat(first, slices.Repeat(begin, n))
				for _, behind := range [][]int{{rle}, {lre}, {rli}, {lri}, {fsi, r}, {fsi, l}, {fsi}, {rle, rli, pdf}, {lri, rle, pdf, pdi, pdf}} {
					for _, end := range [][]int{{pdf}, {pdi}, {pdf, pdi}, {on, pdi, al}} {
						check(t, slices.Concat(deep, behind, []int{l}, slices.Repeat(end, n+3), []int{r}), n%2)
					}
				}
			}
		}
	}
}

// TestLevelsAtTheDeepest tells by hand what is so where there is room no more.
func TestLevelsAtTheDeepest(t *testing.T) {
	deep := slices.Repeat([]int{rle, lre}, 62) // levels up to 124
	levels := func(classes ...int) []int {
		l, _ := explicit.Levels(slices.Concat(deep, classes), 0)
		return l[len(deep):]
	}
	tests := []struct{ classes, levels []int }{
		{[]int{l, rle, l}, []int{124, 124, 125}},
		{[]int{lre, l, rle, l}, []int{124, 124, 124, 124}}, // 126 may not be; behind that one nothing has room
		{[]int{lre, rle, pdf, pdf, rle, l}, []int{124, 124, 124, 124, 124, 125}},
		{[]int{lri, rle, l, pdi, rle, l}, []int{124, 124, 124, 124, 124, 125}},
		{[]int{rli, l, pdi, l}, []int{124, 125, 124, 124}},
		{[]int{fsi, r, pdi, l}, []int{124, 125, 124, 124}},
		{[]int{fsi, l, pdi, r}, []int{124, 124, 124, 124}},
		{[]int{lre, pdi, pdf, pdf, l}, []int{124, 124, 124, 124, 123}},
		{[]int{lre, rli, pdf, pdi, pdf, rli, l}, []int{124, 124, 124, 124, 124, 124, 125}},
		{[]int{rli, lre, lre, pdi, rle, l}, []int{124, 125, 125, 124, 124, 125}},
	}
	for _, test := range tests {
		if got := levels(test.classes...); !slices.Equal(got, test.levels) {
			t.Errorf("124, %v: %v, asked for %v", test.classes, got, test.levels)
		}
	}
}

// TestLevelsMixed goes through long texts of all classes.
func TestLevelsMixed(t *testing.T) {
	number := uint32(7)
	next := func(n int) int {
		number = number*1664525 + 1013904223
		return int(number>>16) % n
	}
	begins := []int{lre, lro, rle, rlo, lri, rli, fsi}
	for i := range 400 {
		classes := make([]int, 900)
		for at := range classes {
			if classes[at] = next(25) - 1; next(10) < i%10 {
				classes[at] = begins[next(len(begins))]
			}
		}
		check(t, classes, i%2)
	}
}

// TestLevelsLong goes through the longest texts, with much in one another.
func TestLevelsLong(t *testing.T) {
	for _, class := range []int{fsi, rli, rlo, pdi, pdf, al, b} {
		classes := row(class, api.MaxText)
		levels, others := explicit.Levels(classes, 0)
		if len(levels) != len(classes) || len(others) != len(classes) {
			t.Fatalf("many of class %d: %d levels, %d classes", class, len(levels), len(others))
		}
		last := map[int]int{fsi: 124, rli: 125, rlo: 125}[class]
		if levels[len(levels)-1] != last || levels[0] != 0 {
			t.Errorf("many of class %d: the last level is %d", class, levels[len(levels)-1])
		}
	}
	half := 1 << 20
	classes := slices.Concat(row(fsi, half), []int{r}, row(pdi, half), []int{fsi, r})
	levels, _ := explicit.Levels(classes, 0)
	if levels[half] != 124 || !slices.Equal(levels[2*half:], []int{0, 0, 1}) {
		t.Error("many in one another:", levels[half], levels[2*half:])
	}
}

func TestOwnMemory(t *testing.T) {
	room := []int{rlo, l, fsi, r, pdi, 77, 78}
	classes := room[:5]
	levels, others := explicit.Levels(classes, 0)
	if !slices.Equal(room, []int{rlo, l, fsi, r, pdi, 77, 78}) {
		t.Error("Levels changes what it is given:", room)
	}
	for at := range levels {
		levels[at], others[at] = -9, -8
	}
	_, _ = append(levels, 5), append(others, 6)
	if slices.Contains(levels, -8) || slices.Contains(others, -9) || !slices.Equal(room, []int{rlo, l, fsi, r, pdi, 77, 78}) {
		t.Error("an answer is shared:", room, levels, others)
	}
	again, more := explicit.Levels(classes, 0)
	if !slices.Equal(again, []int{0, 1, 1, 3, 1}) || !slices.Equal(more, []int{bn, r, r, r, r}) {
		t.Error("another answer:", again, more)
	}
}
