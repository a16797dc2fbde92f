package seq_test

import (
	"math"
	"slices"
	"testing"

	"naskh/api"
	"naskh/explicit"
	"naskh/seq"
)

// Classes in fewer words.
const (
	l   = api.L
	r   = api.R
	al  = api.AL
	on  = api.ON
	bn  = api.BN
	b   = api.B
	lre = api.LRE
	lro = api.LRO
	rle = api.RLE
	rlo = api.RLO
	pdf = api.PDF
	lri = api.LRI
	rli = api.RLI
	fsi = api.FSI
	pdi = api.PDI
)

// noClasses are numbers beside those of classes, what ends in the bits of classes among them.
var noClasses = []int{-1, 23, 24, 0x100 + api.BN, 1<<32 + api.LRI, 1<<32 + api.PDI, math.MinInt, math.MinInt + api.BN, math.MaxInt}

// each calls f with every list of n of these.
func each(n int, items []int, f func(list []int)) {
	all := 1
	for range n {
		all *= len(items)
	}
	for which := range all {
		list := make([]int, n)
		for at := range list {
			list[at] = items[which%len(items)]
			which /= len(items)
		}
		f(list)
	}
}

// left says whether a class is left out.
func left(class int) bool { return slices.Contains([]int{lre, lro, rle, rlo, pdf, bn}, class) }

// stay tells the places that are not left out.
func stay(classes []int) []int {
	var places []int
	for at, class := range classes {
		if !left(class) {
			places = append(places, at)
		}
	}
	return places
}

// wantRuns tells what Runs is to answer: where the level is another one than ahead, a run begins.
func wantRuns(levels, classes []int) [][]int {
	if len(levels) != len(classes) {
		return nil
	}
	var runs [][]int
	ahead := -1
	for _, at := range stay(classes) {
		if ahead < 0 || levels[ahead] != levels[at] {
			runs = append(runs, nil)
		}
		runs[len(runs)-1] = append(runs[len(runs)-1], at)
		ahead = at
	}
	return runs
}

// begins says whether a class begins what stands apart.
func begins(class int) bool { return class == lri || class == rli || class == fsi }

// ended tells where what begins at a place ends, going on from there.
func ended(before []int, at int) int {
	open := 0
	for i := at; i < len(before); i++ {
		if begins(before[i]) {
			open++
		}
		if before[i] == pdi {
			open--
		}
		if open == 0 {
			return i
		}
	}
	return len(before)
}

// model is what Sequences is given, and the runs that are in no sequence yet.
type model struct {
	levels, classes, before []int
	level                   int
	runs                    [][]int
}

// behind tells the place in which a sequence goes on behind a place, or -1.
func (m *model) behind(at int) int {
	if end := ended(m.before, at); begins(m.before[at]) && end < len(m.before) {
		return end
	}
	return -1
}

// grow tells the places of the sequence that begins with a run, and keeps the runs that are not in it.
func (m *model) grow(run []int) []int {
	m.runs = slices.DeleteFunc(m.runs, func(other []int) bool { return other[0] == run[0] })
	end := m.behind(run[len(run)-1])
	for _, other := range m.runs {
		if other[0] == end {
			return append(slices.Clone(run), m.grow(other)...)
		}
	}
	return slices.Clone(run)
}

// neighbour tells the level of the first place that is not left out, going from a place, or else the paragraph's.
func (m *model) neighbour(at, step int) int {
	for at += step; at >= 0 && at < len(m.classes); at += step {
		if !left(m.classes[at]) {
			return m.levels[at]
		}
	}
	return m.level
}

// direction tells the direction of two levels.
func direction(a, b int) int {
	if a < b {
		a = b
	}
	if a%2 != 0 {
		return r
	}
	return l
}

// want tells what Sequences is to answer.
func want(levels, classes, before []int, level int) []seq.Sequence {
	if len(levels) != len(classes) || len(before) != len(classes) {
		return nil
	}
	m := &model{levels, classes, before, level, wantRuns(levels, classes)}
	var sequences []seq.Sequence
	for len(m.runs) > 0 {
		at := m.grow(m.runs[0])
		end := at[len(at)-1]
		behind := m.neighbour(end, 1)
		if begins(before[end]) && m.behind(end) < 0 {
			behind = level
		}
		s := seq.Sequence{At: at, Level: levels[at[0]], Sos: direction(levels[at[0]], m.neighbour(at[0], -1)), Eos: direction(levels[end], behind)}
		sequences = append(sequences, s)
	}
	return sequences
}

// same says whether two sequences are the same.
func same(a, b seq.Sequence) bool {
	return slices.Equal(a.At, b.At) && a.Level == b.Level && a.Sos == b.Sos && a.Eos == b.Eos
}

// check holds what both calls answer against what they are to answer, and against P23.3, as far as it holds of all levels.
func check(t *testing.T, levels, classes, before []int, level int) []seq.Sequence {
	t.Helper()
	given := slices.Concat(levels, classes, before)
	runs := seq.Runs(levels, classes)
	if wanted := wantRuns(levels, classes); !slices.EqualFunc(runs, wanted, slices.Equal) {
		t.Fatalf("Runs(%v, %v): %v, asked for %v", levels, classes, runs, wanted)
	}
	sequences := seq.Sequences(levels, classes, before, level)
	if wanted := want(levels, classes, before, level); !slices.EqualFunc(sequences, wanted, same) {
		t.Fatalf("Sequences(%v, %v, %v, %d): %v, asked for %v", levels, classes, before, level, sequences, wanted)
	}
	if !slices.Equal(given, slices.Concat(levels, classes, before)) {
		t.Fatalf("changed: %v, %v, %v", levels, classes, before)
	}
	var all []int
	for _, s := range sequences {
		all = append(all, s.At...)
	}
	if slices.Sort(all); len(before) == len(levels) && len(levels) == len(classes) && !slices.Equal(all, stay(classes)) {
		t.Fatalf("Sequences(%v, %v, %v, %d): %v", levels, classes, before, level, sequences)
	}
	return sequences
}

// checkText does so with the levels that a text has, where all places of a sequence have its level.
func checkText(t *testing.T, before []int, level int) {
	t.Helper()
	levels, classes := explicit.Levels(before, level)
	for _, s := range check(t, levels, classes, before, level) {
		for _, at := range s.At {
			if levels[at] != s.Level {
				t.Fatalf("%v at %d: levels %v, a sequence %v", before, level, levels, s)
			}
		}
	}
}

func TestRuns(t *testing.T) {
	tests := []struct {
		levels, classes []int
		want            [][]int
	}{
		{nil, nil, nil},
		{[]int{}, nil, nil},
		{[]int{0}, []int{l}, [][]int{{0}}},
		{[]int{0, 1, 0}, []int{l, r, l}, [][]int{{0}, {1}, {2}}},
		{[]int{0, 0, 1, 1, 1, 2}, []int{l, r, al, on, b, l}, [][]int{{0, 1}, {2, 3, 4}, {5}}},
		// what is left out has no part, neither in a run nor between two
		{[]int{0, 1, 0}, []int{l, bn, l}, [][]int{{0, 2}}},
		{[]int{5, 0, 1, 2, 3, 0, 4}, []int{rle, l, lre, rlo, lro, r, pdf}, [][]int{{1, 5}}},
		{[]int{0, 1, 2}, []int{bn, pdf, lre}, nil},
		{[]int{1, 1, 2, 1}, []int{bn, r, bn, r}, [][]int{{1, 3}}},
		// isolates are not left out
		{[]int{0, 0, 1, 0}, []int{lri, rli, fsi, pdi}, [][]int{{0, 1}, {2}, {3}}},
		// any numbers
		{[]int{-1, -1, math.MaxInt, math.MinInt, math.MinInt}, []int{-1, 99, 1 << 32, 1<<32 + bn, l}, [][]int{{0, 1}, {2}, {3, 4}}},
		// not as many
		{[]int{0}, nil, nil},
		{nil, []int{l}, nil},
		{[]int{0, 0}, []int{l}, nil},
		{[]int{0}, []int{l, l}, nil},
	}
	for _, test := range tests {
		if got := seq.Runs(test.levels, test.classes); !slices.EqualFunc(got, test.want, slices.Equal) {
			t.Errorf("Runs(%v, %v): %v, asked for %v", test.levels, test.classes, got, test.want)
		}
	}
}

// byHand is what Sequences is given, and what it is to answer.
type byHand struct {
	level                   int
	levels, classes, before []int
	want                    []seq.Sequence
}

// tell holds Sequences against what is told by hand.
func tell(t *testing.T, tests []byHand) {
	t.Helper()
	for _, test := range tests {
		if test.before == nil {
			test.before = test.classes
		}
		got := seq.Sequences(test.levels, test.classes, test.before, test.level)
		if !slices.EqualFunc(got, test.want, same) {
			t.Errorf("Sequences(%v, %v, %v, %d): %v, asked for %v", test.levels, test.classes, test.before, test.level, got, test.want)
		}
	}
}

// TestSequences tells by hand which runs go on in one another.
func TestSequences(t *testing.T) {
	tell(t, []byHand{
		{0, nil, nil, nil, nil},
		{1, []int{0, 1}, []int{bn, pdf}, []int{l, l}, nil},
		{0, []int{0, 1, 0}, []int{l, r, l}, nil, []seq.Sequence{{[]int{0}, 0, l, r}, {[]int{1}, 1, r, r}, {[]int{2}, 0, r, l}}},
		{0, []int{0, 0, 1, 0, 0}, []int{l, rli, r, pdi, l}, nil, []seq.Sequence{{[]int{0, 1, 3, 4}, 0, l, l}, {[]int{2}, 1, r, r}}},
		// embeddings go on in nothing
		{0, []int{0, 0, 1, 1, 0}, []int{l, bn, r, bn, l}, []int{l, rle, r, pdf, l}, []seq.Sequence{{[]int{0}, 0, l, r}, {[]int{2}, 1, r, r}, {[]int{4}, 0, r, l}}},
		// what ends and begins again, directly behind
		{0, []int{0, 0, 1, 0, 0, 1, 0, 0}, []int{l, rli, r, pdi, rli, al, pdi, l}, nil, []seq.Sequence{{[]int{0, 1, 3, 4, 6, 7}, 0, l, l}, {[]int{2}, 1, r, r}, {[]int{5}, 1, r, r}}},
		// one in another
		{0, []int{0, 1, 2, 1, 0}, []int{rli, lri, l, pdi, pdi}, nil, []seq.Sequence{{[]int{0, 4}, 0, l, l}, {[]int{1, 3}, 1, r, r}, {[]int{2}, 2, l, l}}},
		{0, []int{0, 2, 3, 2, 0}, []int{fsi, rli, r, pdi, pdi}, nil, []seq.Sequence{{[]int{0, 4}, 0, l, l}, {[]int{1, 3}, 2, l, l}, {[]int{2}, 3, r, r}}},
		// nothing within, so that it is one run
		{0, []int{0, 0, 0}, []int{lri, pdi, l}, nil, []seq.Sequence{{[]int{0, 1, 2}, 0, l, l}}},
		// it does not end: the paragraph's level is behind
		{0, []int{0, 0, 1, 1}, []int{l, rli, r, r}, nil, []seq.Sequence{{[]int{0, 1}, 0, l, l}, {[]int{2, 3}, 1, r, r}}},
		{1, []int{1, 2, 2}, []int{lri, l, l}, nil, []seq.Sequence{{[]int{0}, 1, r, r}, {[]int{1, 2}, 2, l, l}}},
		{3, []int{0, 1}, []int{rli, r}, nil, []seq.Sequence{{[]int{0}, 0, r, r}, {[]int{1}, 1, r, r}}},
		// the isolate's own class is another one by an override: what the text has goes on
		{0, []int{0, 1, 2, 1, 1}, []int{bn, r, l, r, bn}, []int{rlo, lri, l, pdi, pdf}, []seq.Sequence{{[]int{1, 3}, 1, r, r}, {[]int{2}, 2, l, l}}},
		// and what it has not does not
		{0, []int{0, 1, 0}, []int{lri, r, pdi}, []int{l, r, l}, []seq.Sequence{{[]int{0}, 0, l, r}, {[]int{1}, 1, r, r}, {[]int{2}, 0, r, l}}},
	})
}

// TestSequencesOdd tells by hand what becomes of levels and classes that no text has.
func TestSequencesOdd(t *testing.T) {
	tell(t, []byHand{
		// a run that does not begin with the PDI, one whose PDI is left out
		{0, []int{0, 1, 1}, []int{lri, l, pdi}, nil, []seq.Sequence{{[]int{0}, 0, l, r}, {[]int{1, 2}, 1, r, r}}},
		{0, []int{0, 1, 0}, []int{lri, l, bn}, []int{lri, l, pdi}, []seq.Sequence{{[]int{0}, 0, l, r}, {[]int{1}, 1, r, r}}},
		// one that is not the last place of its run
		{0, []int{0, 0, 1, 0}, []int{lri, on, l, pdi}, nil, []seq.Sequence{{[]int{0, 1}, 0, l, r}, {[]int{2}, 1, r, r}, {[]int{3}, 0, r, l}}},
		// the run goes on whatever its level: that of the first one is told, and each end looks at its own
		{0, []int{0, 2, 3, 4}, []int{lri, l, pdi, l}, nil, []seq.Sequence{{[]int{0, 2}, 0, l, l}, {[]int{1}, 2, l, r}, {[]int{3}, 4, l, l}}},
		{0, []int{2, 1, 3}, []int{lri, l, pdi}, nil, []seq.Sequence{{[]int{0, 2}, 2, l, r}, {[]int{1}, 1, l, r}}},
		// a PDI goes on in nothing, nor does what ends nothing
		{0, []int{0, 1, 0}, []int{pdi, r, pdi}, nil, []seq.Sequence{{[]int{0}, 0, l, r}, {[]int{1}, 1, r, r}, {[]int{2}, 0, r, l}}},
		{0, []int{0, 1, 2}, []int{lri, pdi, pdi}, nil, []seq.Sequence{{[]int{0, 1}, 0, l, l}, {[]int{2}, 2, l, l}}},
		// the greater one of two levels, also below 0
		{-3, []int{-2, -1, -4}, []int{l, l, l}, nil, []seq.Sequence{{[]int{0}, -2, l, r}, {[]int{1}, -1, r, r}, {[]int{2}, -4, r, r}}},
		{math.MinInt, []int{math.MaxInt, math.MinInt}, []int{l, l}, nil, []seq.Sequence{{[]int{0}, math.MaxInt, r, r}, {[]int{1}, math.MinInt, r, l}}},
		{2, []int{1}, []int{l}, nil, []seq.Sequence{{[]int{0}, 1, l, l}}},
		{125, []int{1, 9, 1}, []int{bn, l, bn}, nil, []seq.Sequence{{[]int{1}, 9, r, r}}},
		// not as many
		{0, []int{0}, []int{l, l}, nil, nil},
		{0, []int{0, 0}, []int{l}, nil, nil},
		{0, []int{0}, []int{l}, []int{l, l}, nil},
		{0, []int{0}, []int{l}, []int{}, nil},
		{0, []int{0, 0}, []int{l}, []int{l, l}, nil},
		{0, nil, nil, []int{l}, nil},
	})
}

// TestEnds tells that what is left out does not stand at an end.
func TestEnds(t *testing.T) {
	for _, class := range []int{lre, lro, rle, rlo, pdf, bn} {
		tell(t, []byHand{
			{0, []int{1, 0, 1}, []int{class, l, class}, nil, []seq.Sequence{{[]int{1}, 0, l, l}}},
			{0, []int{1, 5, 0, 5, 1}, []int{r, class, l, class, r}, nil, []seq.Sequence{{[]int{0}, 1, r, r}, {[]int{2}, 0, r, r}, {[]int{4}, 1, r, r}}},
			{0, []int{0, 5, 2, 5, 0}, []int{r, class, l, class, r}, nil, []seq.Sequence{{[]int{0}, 0, l, l}, {[]int{2}, 2, l, l}, {[]int{4}, 0, l, l}}},
			{0, []int{0, 7, 1, 7, 0}, []int{lri, class, r, class, pdi}, nil, []seq.Sequence{{[]int{0, 4}, 0, l, l}, {[]int{2}, 1, r, r}}},
		})
	}
}

// TestTextsEach goes through every text of a few classes.
func TestTextsEach(t *testing.T) {
	items := []int{l, r, bn, b, rle, lro, pdf, lri, rli, fsi, pdi}
	for n := range 6 {
		each(n, items, func(before []int) {
			for level := range 2 {
				checkText(t, before, level)
			}
		})
	}
	each(8, []int{l, r, rli, lri, pdi}, func(before []int) { checkText(t, before, 0) })
	each(7, []int{l, al, rlo, pdf, fsi, pdi}, func(before []int) { checkText(t, before, 1) })
}

// TestEach goes through every short list of levels with classes that need not come of them.
func TestEach(t *testing.T) {
	numbers := make([]int, 3*2*4)
	for which := range numbers {
		numbers[which] = which
	}
	for n := range 5 {
		each(n, numbers, func(list []int) {
			levels, classes, before := make([]int, n), make([]int, n), make([]int, n)
			for at, which := range list {
				levels[at], classes[at], before[at] = which%3, []int{on, bn}[which/3%2], []int{l, rli, lri, pdi}[which/6]
			}
			check(t, levels, classes, before, n%2)
		})
	}
	each(6, []int{0, 1, 2, 3, 4, 5}, func(list []int) {
		levels, classes := make([]int, 6), make([]int, 6)
		for at, which := range list {
			levels[at], classes[at] = which%2, []int{l, fsi, pdi}[which/2]
		}
		check(t, levels, classes, classes, 2)
	})
}

// TestEachClass puts each class, and what is none, where something goes on, and where it does not.
func TestEachClass(t *testing.T) {
	all := slices.Clone(noClasses)
	for class := -2; class < 26; class++ {
		all = append(all, class)
	}
	for _, one := range all {
		for _, other := range all {
			for _, level := range []int{0, 1, -1, 126} {
				check(t, []int{0, 1, 0, 1}, []int{one, other, one, other}, []int{one, other, one, other}, level)
				check(t, []int{0, 1, 0}, []int{l, one, l}, []int{one, l, other}, level)
				check(t, []int{1, 2, 1, 1}, []int{one, r, other, pdi}, []int{one, lri, other, pdi}, level)
			}
		}
	}
}

// TestNotAsMany goes through lists of which one is longer than another.
func TestNotAsMany(t *testing.T) {
	zeros := make([]int, 4)
	for i := range 4 {
		for j := range 4 {
			for k := range 4 {
				check(t, zeros[:i], zeros[:j], zeros[:k], 1)
			}
		}
	}
}

// TestMixed goes through long texts of all classes, and through levels that come of none.
func TestMixed(t *testing.T) {
	number := uint32(3)
	next := func(n int) int {
		number = number*1664525 + 1013904223
		return int(number>>16) % n
	}
	some := []int{l, r, bn, lri, rli, fsi, pdi, pdi, rle, pdf}
	for i := range 300 {
		levels, before := make([]int, 250), make([]int, 250)
		for at := range before {
			levels[at] = next(4) - 1
			if before[at] = next(25) - 1; next(8) < i%8 {
				before[at] = some[next(len(some))]
			}
		}
		checkText(t, before, i%2)
		check(t, levels, before, before, i%4-1)
	}
}

// TestLong goes through the longest texts: one run, a run of each place, many that go on in one another.
func TestLong(t *testing.T) {
	const n = api.MaxText
	text := func(classes ...int) ([]int, []int) {
		before := slices.Repeat(classes, n/len(classes))
		levels, _ := explicit.Levels(before, 0)
		return levels, before
	}
	levels, before := text(l, r)
	if sequences := seq.Sequences(levels, before, before, 0); len(sequences) != 1 || len(sequences[0].At) != n {
		t.Errorf("one run: %d sequences", len(sequences))
	}
	levels, before = text(rli, al, pdi, l)
	sequences := seq.Sequences(levels, before, before, 0)
	if len(sequences) != 1+n/4 || len(sequences[0].At) != n/4*3 || !same(sequences[n/4], seq.Sequence{At: []int{n - 3}, Level: 1, Sos: r, Eos: r}) {
		t.Errorf("many go on: %d sequences", len(sequences))
	}
	for at := range levels {
		levels[at], before[at] = at%2, l
	}
	runs := seq.Runs(levels, before)
	if len(runs) != n || !slices.Equal(runs[n-1], []int{n - 1}) {
		t.Errorf("each a run: %d", len(runs))
	}
}

// TestLongDeep goes through isolates in one another.
func TestLongDeep(t *testing.T) {
	const half = 1 << 20
	before := slices.Concat(slices.Repeat([]int{rli}, half), slices.Repeat([]int{pdi}, half))
	levels, classes := explicit.Levels(before, 0)
	sequences := seq.Sequences(levels, classes, before, 0)
	if len(sequences) != 1+api.MaxDepth/2+1 || !slices.Equal(sequences[1].At, []int{1, 2*half - 2}) || len(sequences[63].At) != 2*half-126 {
		t.Errorf("in one another: %d sequences", len(sequences))
	}
	before = before[:half]
	sequences = seq.Sequences(levels[:half], classes[:half], before, 0)
	if len(sequences) != 1+api.MaxDepth/2+1 || !same(sequences[1], seq.Sequence{At: []int{1}, Level: 1, Sos: r, Eos: r}) || sequences[0].Eos != l {
		t.Errorf("without an end: %d sequences", len(sequences))
	}
}

// TestOwnMemory changes what is answered, and asks again.
func TestOwnMemory(t *testing.T) {
	room := []int{l, rli, r, r, pdi, l, al, 77, 78}
	given := []int{0, 0, 1, 1, 0, 0, 1, 88, 89}
	wasRoom, wasGiven := slices.Clone(room), slices.Clone(given)
	classes, levels := room[:7], given[:7]
	for range 2 {
		runs, sequences := seq.Runs(levels, classes), seq.Sequences(levels, classes, classes, 0)
		if !slices.EqualFunc(runs, [][]int{{0, 1}, {2, 3}, {4, 5}, {6}}, slices.Equal) {
			t.Fatal("Runs:", runs)
		}
		if !slices.EqualFunc(sequences, []seq.Sequence{{[]int{0, 1, 4, 5}, 0, l, r}, {[]int{2, 3}, 1, r, r}, {[]int{6}, 1, r, r}}, same) {
			t.Fatal("Sequences:", sequences)
		}
		lists := slices.Clone(runs)
		for _, s := range sequences {
			lists = append(lists, s.At)
		}
		for which, list := range lists {
			for at := range list[:cap(list)] {
				list[:cap(list)][at] = -which
			}
		}
		for which, list := range lists {
			if slices.ContainsFunc(list, func(at int) bool { return at != -which }) {
				t.Fatal("two lists share what they have:", lists)
			}
		}
		if !slices.Equal(room, wasRoom) || !slices.Equal(given, wasGiven) {
			t.Fatal("what is given is shared:", room, given)
		}
	}
}
