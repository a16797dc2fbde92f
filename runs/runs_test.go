package runs_test

import (
	"math"
	"slices"
	"testing"

	"naskh/api"
	"naskh/order"
	"naskh/runs"
)

// each calls f with every list of n of these.
func each(n int, items []int, f func(list []int)) {
	all := 1
	for range n {
		all *= len(items)
	}
	for which := range all {
		list := make([]int, n)
		for at := range list {
			list[at] = items[which%len(items)]
			which /= len(items)
		}
		f(list)
	}
}

// numbers tells n numbers below limit that look as if they were drawn, always the same ones.
func numbers(n, limit int, seed uint64) []int {
	list := make([]int, n)
	for at := range list {
		seed = seed*6364136223846793005 + 1442695040888963407
		list[at] = int(seed>>33) % limit
	}
	return list
}

// run tells a run of these.
func run(lo, hi, level int) api.Run {
	return api.Run{Span: api.Span{Lo: lo, Hi: hi}, Level: level}
}

// asCounted tells as which level one counts, by the words of P29.1.
func asCounted(level int) int {
	if level < 0 {
		return 0
	}
	if level > 126 {
		return 126
	}
	return level
}

// longest is P30.1's Logical word by word: each span of one level that no place next to it belongs to.
func longest(levels []int) []api.Run {
	var list []api.Run
	for lo := range levels {
		if lo > 0 && levels[lo-1] == levels[lo] {
			continue
		}
		hi := lo
		for hi < len(levels) && levels[hi] == levels[lo] {
			hi++
		}
		list = append(list, run(lo, hi, levels[lo]))
	}
	return list
}

// turned is P30.1's Visual word by word: the runs in order, then turned round level by level, each longest row as it is then.
func turned(levels []int) []api.Run {
	list := longest(levels)
	greatest, leastOdd := 0, 1000
	for _, level := range levels {
		level = asCounted(level)
		greatest = max(greatest, level)
		if level%2 == 1 {
			leastOdd = min(leastOdd, level)
		}
	}
	for level := greatest; level >= leastOdd; level-- {
		for lo := 0; lo < len(list); lo++ {
			hi := lo
			for hi < len(list) && asCounted(list[hi].Level) >= level {
				hi++
			}
			slices.Reverse(list[lo:hi])
			lo = hi
		}
	}
	return list
}

// places is P30.1's Order word by word.
func places(list []api.Run) []int {
	var all []int
	for _, r := range list {
		if r.Span.Lo < 0 || r.Span.Lo >= r.Span.Hi {
			continue
		}
		var own []int
		for at := r.Span.Lo; at < r.Span.Hi; at++ {
			own = append(own, at)
		}
		if r.Level%2 != 0 {
			slices.Reverse(own)
		}
		all = append(all, own...)
	}
	return all
}

// same says whether the calls tell what the models do, and what follows (P30.2, P30.3).
func same(t *testing.T, levels []int) {
	t.Helper()
	given := slices.Clone(levels)
	logical, visual := runs.Logical(levels), runs.Visual(levels)
	if !slices.Equal(logical, longest(levels)) {
		t.Fatalf("Logical of %v: %v", levels, logical)
	}
	if model := turned(levels); !slices.Equal(visual, model) {
		t.Fatalf("Visual of %v: %v, not %v", levels, visual, model)
	}
	for which := 1; which < len(logical); which++ {
		if logical[which-1].Level == logical[which].Level {
			t.Fatalf("Logical of %v: neighbours of one level in %v", levels, logical)
		}
	}
	list := runs.Order(visual)
	if !slices.Equal(list, places(visual)) {
		t.Fatalf("Order of %v: %v", visual, list)
	}
	if inLimits(levels) && !slices.Equal(list, order.Visual(levels)) {
		t.Fatalf("Order of Visual of %v: %v, not %v", levels, list, order.Visual(levels))
	}
	if !slices.Equal(levels, given) {
		t.Fatalf("changed %v to %v", given, levels)
	}
}

// inLimits says whether all levels are 0 to MaxLevel.
func inLimits(levels []int) bool {
	return !slices.ContainsFunc(levels, func(level int) bool { return level < 0 || level > 126 })
}

// P30.1, by hand.
func TestLogicalAndVisual(t *testing.T) {
	for _, c := range []struct {
		levels          []int
		logical, visual []api.Run
	}{
		{nil, nil, nil},
		{[]int{}, nil, nil},
		{[]int{0}, []api.Run{run(0, 1, 0)}, []api.Run{run(0, 1, 0)}},
		{
			[]int{0, 1, 1},
			[]api.Run{run(0, 1, 0), run(1, 3, 1)},
			[]api.Run{run(0, 1, 0), run(1, 3, 1)},
		},
		{
			[]int{1, 1, 2, 1},
			[]api.Run{run(0, 2, 1), run(2, 3, 2), run(3, 4, 1)},
			[]api.Run{run(3, 4, 1), run(2, 3, 2), run(0, 2, 1)},
		},
		{
			[]int{0, 1, 2, 2, 1, 0},
			[]api.Run{run(0, 1, 0), run(1, 2, 1), run(2, 4, 2), run(4, 5, 1), run(5, 6, 0)},
			[]api.Run{run(0, 1, 0), run(4, 5, 1), run(2, 4, 2), run(1, 2, 1), run(5, 6, 0)},
		},
		{
			[]int{2, 4, 2},
			[]api.Run{run(0, 1, 2), run(1, 2, 4), run(2, 3, 2)},
			[]api.Run{run(0, 1, 2), run(1, 2, 4), run(2, 3, 2)},
		},
		{
			[]int{2, 3, 5},
			[]api.Run{run(0, 1, 2), run(1, 2, 3), run(2, 3, 5)},
			[]api.Run{run(0, 1, 2), run(2, 3, 5), run(1, 2, 3)},
		},
		{ // a level is told as it is, and counts as one of those that may be
			[]int{-1, 0, 1, 127, 128},
			[]api.Run{run(0, 1, -1), run(1, 2, 0), run(2, 3, 1), run(3, 4, 127), run(4, 5, 128)},
			[]api.Run{run(0, 1, -1), run(1, 2, 0), run(3, 4, 127), run(4, 5, 128), run(2, 3, 1)},
		},
		{
			[]int{-1, -3},
			[]api.Run{run(0, 1, -1), run(1, 2, -3)},
			[]api.Run{run(0, 1, -1), run(1, 2, -3)},
		},
		{
			[]int{math.MaxInt, 125, math.MinInt},
			[]api.Run{run(0, 1, math.MaxInt), run(1, 2, 125), run(2, 3, math.MinInt)},
			[]api.Run{run(1, 2, 125), run(0, 1, math.MaxInt), run(2, 3, math.MinInt)},
		},
	} {
		if list := runs.Logical(c.levels); !slices.Equal(list, c.logical) {
			t.Errorf("Logical of %v: %v, not %v", c.levels, list, c.logical)
		}
		if list := runs.Visual(c.levels); !slices.Equal(list, c.visual) {
			t.Errorf("Visual of %v: %v, not %v", c.levels, list, c.visual)
		}
	}
}

// P30.1 to P30.3, every line of few places.
func TestAll(t *testing.T) {
	for n := range 7 {
		each(n, []int{0, 1, 2, 3, 4, 5}, func(levels []int) { same(t, levels) })
	}
	for n := range 10 {
		each(n, []int{0, 1, 2}, func(levels []int) { same(t, levels) })
	}
	for n := range 5 {
		each(n, []int{math.MinInt, -2, -1, 0, 1, 62, 124, 125, 126, 127, 128, math.MaxInt}, func(levels []int) { same(t, levels) })
	}
}

// P30.1 to P30.3, long lines of all levels, some of them in long spans.
func TestLong(t *testing.T) {
	for seed := range 300 {
		limit := []int{2, 3, 5, 9, 62, 127, 131}[seed%7]
		levels := numbers(200+seed, limit, uint64(seed))
		same(t, levels)
		for at := range levels {
			levels[at] = levels[at-at%(1+seed%5)]
		}
		same(t, levels)
		slices.Sort(levels)
		same(t, levels)
		slices.Reverse(levels)
		same(t, levels)
	}
}

// P30.1's Order, by hand: runs that are not right, that lie in one another, and that come in any order.
func TestOrder(t *testing.T) {
	for _, c := range []struct {
		runs []api.Run
		want []int
	}{
		{nil, nil},
		{[]api.Run{}, nil},
		{[]api.Run{run(0, 3, 0)}, []int{0, 1, 2}},
		{[]api.Run{run(0, 3, 1)}, []int{2, 1, 0}},
		{[]api.Run{run(4, 6, 3), run(0, 2, 2)}, []int{5, 4, 0, 1}},
		{[]api.Run{run(0, 2, 0), run(0, 2, 1), run(1, 3, 0)}, []int{0, 1, 1, 0, 1, 2}},
		{[]api.Run{run(2, 2, 0), run(2, 2, 1), run(0, 0, 1)}, nil},
		{[]api.Run{run(3, 1, 1), run(3, 1, 0), run(1, 2, 1)}, []int{1}},
		{[]api.Run{run(-1, 2, 0), run(-1, 2, 1), run(-3, -1, 0), run(7, 9, 1)}, []int{8, 7}},
		{[]api.Run{run(math.MinInt, math.MaxInt, 0), run(math.MaxInt, math.MinInt, 1), run(5, 6, 0)}, []int{5}},
		{[]api.Run{run(math.MaxInt-2, math.MaxInt, 0)}, []int{math.MaxInt - 2, math.MaxInt - 1}},
		{[]api.Run{run(math.MaxInt-2, math.MaxInt, 1)}, []int{math.MaxInt - 1, math.MaxInt - 2}},
		{[]api.Run{run(0, 2, -1), run(2, 4, -2)}, []int{1, 0, 2, 3}},
		{[]api.Run{run(0, 2, 127), run(2, 4, 128)}, []int{1, 0, 2, 3}},
		{[]api.Run{run(0, 2, math.MaxInt), run(2, 4, math.MinInt)}, []int{1, 0, 2, 3}},
	} {
		if list := runs.Order(c.runs); !slices.Equal(list, c.want) {
			t.Errorf("Order of %v: %v, not %v", c.runs, list, c.want)
		}
	}
}

// P30.1's Order, every three runs of few places.
func TestOrderAll(t *testing.T) {
	var all []api.Run
	for lo := -1; lo < 3; lo++ {
		for hi := -1; hi < 4; hi++ {
			all = append(all, run(lo, hi, 0), run(lo, hi, 1))
		}
	}
	which := make([]int, len(all))
	for i := range which {
		which[i] = i
	}
	each(3, which, func(list []int) {
		three := []api.Run{all[list[0]], all[list[1]], all[list[2]]}
		if got := runs.Order(three); !slices.Equal(got, places(three)) {
			t.Fatalf("Order of %v: %v, not %v", three, got, places(three))
		}
	})
}

// R1: more places than one answer may hold are not told, without a panic.
func TestTooMany(t *testing.T) {
	for _, list := range [][]api.Run{
		{run(0, math.MaxInt, 0)},
		{run(0, math.MaxInt, 1), run(0, math.MaxInt, 0), run(0, math.MaxInt, 0)},
		{run(0, 1, 0), run(1, math.MaxInt, 0)},
		{run(0, 1<<27, 0), run(0, 1<<27, 1), run(0, 1<<27, 0)},
	} {
		if got := runs.Order(list); len(got) != 0 {
			t.Error("Order of", list, len(got))
		}
	}
}

// R3: what was given stays what it was, its spare room too, and what was answered may be changed.
func TestOwnMemory(t *testing.T) {
	room := []int{0, 1, 1, 0, 77, 77}
	levels := room[:4]
	logical, visual := runs.Logical(levels), runs.Visual(levels)
	given := slices.Clone(visual)
	list := runs.Order(visual)
	list = append(list, 99)
	list = list[:cap(list)]
	for i := range list {
		list[i] = 99
	}
	if !slices.Equal(visual, given) {
		t.Error("Order changed what it was given", visual)
	}
	for _, l := range [][]api.Run{logical, visual} {
		l = append(l, run(99, 99, 99))
		l = l[:cap(l)]
		for i := range l {
			l[i] = run(99, 99, 99)
		}
	}
	if !slices.Equal(room, []int{0, 1, 1, 0, 77, 77}) {
		t.Error("what was given is not what it was", room)
	}
	if again := runs.Logical(levels); !slices.Equal(again, longest(levels)) {
		t.Error("Logical is not what it was", again)
	}
	if again := runs.Visual(levels); !slices.Equal(again, given) {
		t.Error("Visual is not what it was", again)
	}
}

// Lines of the greatest size: all levels in one another, and two of them to and fro.
func TestMaxText(t *testing.T) {
	const n = api.MaxText
	levels := make([]int, n)
	for at := range levels {
		levels[at] = max(at, n-1-at) / 2 % 127
	}
	visual := runs.Visual(levels)
	if logical := runs.Logical(levels); len(visual) != len(logical) {
		t.Error("Visual and Logical", len(visual), len(logical))
	}
	if !slices.Equal(runs.Order(visual), order.Visual(levels)) {
		t.Error("Order of Visual")
	}
	for at := range levels {
		levels[at] = at % 2
	}
	if visual := runs.Visual(levels); len(visual) != n || !slices.Equal(visual, runs.Logical(levels)) {
		t.Error("Visual of levels to and fro", len(visual))
	}
}
