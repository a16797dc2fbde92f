package accent_test

import (
	"math"
	"slices"
	"testing"

	"naskh/accent"
	"naskh/api"
	"naskh/order"
)

// each calls f with every list of n of these.
func each(n int, items []int, f func(list []int)) {
	all := 1
	for range n {
		all *= len(items)
	}
	for which := range all {
		list := make([]int, n)
		for at := range list {
			list[at] = items[which%len(items)]
			which /= len(items)
		}
		f(list)
	}
}

// numbers tells n numbers below limit that look as if they were drawn, always the same ones.
func numbers(n, limit int, seed uint64) []int {
	list := make([]int, n)
	for at := range list {
		seed = seed*6364136223846793005 + 1442695040888963407
		list[at] = int(seed>>33) % limit
	}
	return list
}

// permutations calls f with every order of n places.
func permutations(n int, f func(order []int)) {
	var more func(order []int)
	more = func(order []int) {
		if len(order) == n {
			f(slices.Clone(order))
			return
		}
		for at := range n {
			if !slices.Contains(order, at) {
				more(append(slices.Clone(order), at))
			}
		}
	}
	more(nil)
}

// truths tells which of these are not 0.
func truths(list []int) []bool {
	marks := make([]bool, len(list))
	for at, n := range list {
		marks[at] = n != 0
	}
	return marks
}

// span tells a span of these.
func span(lo, hi int) api.Span {
	return api.Span{Lo: lo, Hi: hi}
}

// grouped is P31.1 word by word.
func grouped(levels []int, marks []bool) []api.Span {
	var list []api.Span
	for at, level := range levels {
		if level%2 == 0 || marks[at] {
			continue
		}
		stand := 0
		for next := at + 1; next < len(levels) && marks[next] && levels[next] == level; next++ {
			stand++
		}
		if stand > 0 {
			list = append(list, span(at, at+1+stand))
		}
	}
	return list
}

// ordered is P31.2 word by word, of orders that permute.
func ordered(seen, levels []int, marks []bool) []int {
	list := slices.Clone(seen)
	for _, group := range grouped(levels, marks) {
		var rising, falling []int
		for at := group.Lo; at < group.Hi; at++ {
			rising = append(rising, at)
			falling = append([]int{at}, falling...)
		}
		first := slices.Index(seen, group.Hi-1)
		behind := first + len(falling)
		if behind <= len(seen) && slices.Equal(seen[first:behind], falling) {
			copy(list[first:behind], rising)
		}
	}
	return list
}

// same says whether Order tells what the model does, and what follows (P31.3).
func same(t *testing.T, seen, levels []int, marks []bool) {
	t.Helper()
	list, errno := accent.Order(seen, levels, marks)
	if model := ordered(seen, levels, marks); errno != api.OK || !slices.Equal(list, model) {
		t.Fatalf("Order of %v %v %v: %v %v, not %v", seen, levels, marks, list, errno, model)
	}
	if !order.Permutes(list) {
		t.Fatalf("Order of %v %v %v: %v", seen, levels, marks, list)
	}
}

// P31.1, by hand.
func TestGroups(t *testing.T) {
	for _, c := range []struct {
		levels, marks []int
		groups        []api.Span
	}{
		{nil, nil, nil},
		{[]int{1}, []int{0}, nil},
		{[]int{1}, []int{1}, nil},
		{[]int{1, 1}, []int{0, 0}, nil},
		{[]int{1, 1}, []int{0, 1}, []api.Span{span(0, 2)}},
		{[]int{1, 1}, []int{1, 0}, nil},
		{[]int{1, 1}, []int{1, 1}, nil},
		{[]int{0, 0}, []int{0, 1}, nil},
		{[]int{2, 2}, []int{0, 1}, nil},
		{[]int{3, 3}, []int{0, 1}, []api.Span{span(0, 2)}},
		{[]int{1, 2}, []int{0, 1}, nil},
		{[]int{1, 3}, []int{0, 1}, nil},
		{[]int{2, 1}, []int{0, 1}, nil},
		{[]int{1, 1, 1, 1}, []int{0, 1, 1, 1}, []api.Span{span(0, 4)}},
		{[]int{1, 1, 3, 1}, []int{0, 1, 1, 1}, []api.Span{span(0, 2)}},
		{[]int{1, 3, 3, 3}, []int{0, 0, 1, 1}, []api.Span{span(1, 4)}},
		{[]int{1, 1, 1, 1, 1}, []int{0, 1, 0, 1, 1}, []api.Span{span(0, 2), span(2, 5)}},
		{[]int{1, 1, 1, 1, 1}, []int{1, 0, 1, 0, 0}, []api.Span{span(1, 3)}},
		{[]int{125, 125, 127, 127, -1, -1}, []int{0, 1, 0, 1, 0, 1}, []api.Span{span(0, 2), span(2, 4), span(4, 6)}},
		{[]int{126, 126, 128, 128, -2, -2}, []int{0, 1, 0, 1, 0, 1}, nil},
		{[]int{math.MaxInt, math.MaxInt, math.MinInt, math.MinInt}, []int{0, 1, 0, 1}, []api.Span{span(0, 2)}},
	} {
		if list := accent.Groups(c.levels, truths(c.marks)); !slices.Equal(list, c.groups) {
			t.Errorf("Groups of %v %v: %v", c.levels, c.marks, list)
		}
	}
}

// P31.1: as many of each, else none.
func TestGroupsOfUnlikeLengths(t *testing.T) {
	for places := range 5 {
		for marked := range 5 {
			levels := slices.Repeat([]int{1}, places)
			marks := truths(slices.Repeat([]int{0, 1}, 3)[:marked])
			list := accent.Groups(levels, marks)
			if places != marked && len(list) != 0 {
				t.Errorf("Groups of %d levels and %d marks: %v", places, marked, list)
			}
			if places == marked && len(list) != places/2 {
				t.Errorf("Groups of %d of each: %v", places, list)
			}
		}
	}
}

// P31.1, P31.2: every short line, in the order in which it is seen, too.
func TestEveryShortLine(t *testing.T) {
	for n := range 6 {
		each(n, []int{0, 1, 2, 3, -1}, func(levels []int) {
			each(n, []int{0, 1}, func(drawn []int) {
				marks := truths(drawn)
				if list := accent.Groups(levels, marks); !slices.Equal(list, grouped(levels, marks)) {
					t.Fatalf("Groups of %v %v: %v", levels, marks, list)
				}
				same(t, order.Visual(levels), levels, marks)
			})
		})
	}
}

// P31.2, by hand.
func TestOrder(t *testing.T) {
	for _, c := range []struct{ seen, levels, marks, list []int }{
		{nil, nil, nil, nil},
		{[]int{0}, []int{1}, []int{1}, []int{0}},
		{[]int{2, 1, 0}, []int{1, 1, 1}, []int{0, 1, 1}, []int{0, 1, 2}},
		{[]int{1, 0}, []int{1, 1}, []int{0, 1}, []int{0, 1}},
		{[]int{0, 1}, []int{1, 1}, []int{0, 1}, []int{0, 1}},
		{[]int{1, 0}, []int{2, 2}, []int{0, 1}, []int{1, 0}},
		{[]int{1, 0}, []int{1, 1}, []int{0, 0}, []int{1, 0}},
		{[]int{1, 0}, []int{1, 1}, []int{1, 1}, []int{1, 0}},
		{[]int{3, 2, 1, 0}, []int{1, 1, 1, 1}, []int{0, 1, 0, 1}, []int{2, 3, 0, 1}},
		{[]int{3, 2, 1, 0}, []int{1, 1, 1, 1}, []int{0, 0, 1, 0}, []int{3, 1, 2, 0}},
		{[]int{2, 0, 1}, []int{1, 1, 1}, []int{0, 1, 1}, []int{2, 0, 1}},
		{[]int{1, 2, 0}, []int{1, 1, 1}, []int{0, 1, 1}, []int{1, 2, 0}},
		{[]int{1, 0, 2}, []int{1, 1, 1}, []int{0, 1, 1}, []int{1, 0, 2}},
		{[]int{0, 2, 1}, []int{1, 1, 1}, []int{0, 1, 1}, []int{0, 2, 1}},
		{[]int{2, 3, 1, 0}, []int{1, 1, 1, 1}, []int{0, 1, 0, 0}, []int{2, 3, 0, 1}},
		{[]int{1, 0, 3, 2}, []int{-1, -1, 127, 127}, []int{0, 1, 0, 1}, []int{0, 1, 2, 3}},
	} {
		list, errno := accent.Order(c.seen, c.levels, truths(c.marks))
		if errno != api.OK || !slices.Equal(list, c.list) {
			t.Errorf("Order of %v %v %v: %v %v", c.seen, c.levels, c.marks, list, errno)
		}
	}
}

// P31.2, P31.3: every order of few places.
func TestEveryOrder(t *testing.T) {
	for n := range 6 {
		permutations(n, func(seen []int) {
			each(n, []int{1, 3}, func(levels []int) {
				each(n, []int{0, 1}, func(drawn []int) { same(t, seen, levels, truths(drawn)) })
			})
		})
	}
	permutations(7, func(seen []int) {
		for _, drawn := range [][]int{{0, 1, 1, 0, 1, 1, 1}, {0, 1, 0, 1, 0, 1, 0}, {1, 0, 1, 1, 1, 1, 1}, {0, 1, 1, 1, 1, 1, 1}} {
			same(t, seen, []int{1, 1, 1, 1, 1, 1, 1}, truths(drawn))
		}
	})
}

// P31.2: ErrArg is first, then ErrMap.
func TestErrors(t *testing.T) {
	for places := range 4 {
		for leveled := range 4 {
			for marked := range 4 {
				seen := []int{2, 1, 0}[3-places:]
				_, errno := accent.Order(seen, []int{1, 1, 1}[:leveled], []bool{false, true, true}[:marked])
				alike := places == leveled && places == marked
				if alike != (errno == api.OK) || !alike && errno != api.ErrArg {
					t.Errorf("Order of %d %d %d: %v", places, leveled, marked, errno)
				}
			}
		}
	}
	for n := range 5 {
		each(n, []int{-1, 0, 1, 2, 3, 4}, func(seen []int) {
			levels, marks := slices.Repeat([]int{1}, n), truths(slices.Repeat([]int{0, 1}, n)[:n])
			list, errno := accent.Order(seen, levels, marks)
			if order.Permutes(seen) != (errno == api.OK) {
				t.Fatalf("Order of %v: %v %v", seen, list, errno)
			}
			if errno != api.OK && (errno != api.ErrMap || len(list) != 0) {
				t.Fatalf("Order of %v: %v %v", seen, list, errno)
			}
			if list, errno := accent.Order(seen, append(levels, 1), marks); errno != api.ErrArg || len(list) != 0 {
				t.Fatalf("Order of %v with a level more: %v %v", seen, list, errno)
			}
		})
	}
	for _, wrong := range []int{math.MaxInt, math.MinInt, 1 << 32, -1 << 32, 2} {
		if _, errno := accent.Order([]int{wrong, 0}, []int{1, 1}, []bool{false, true}); errno != api.ErrMap {
			t.Errorf("Order of %d: %v", wrong, errno)
		}
	}
}

// P31.1 to P31.3: long lines of all levels.
func TestLongLines(t *testing.T) {
	for seed := range uint64(60) {
		n := 50 + 20*int(seed)
		levels, drawn := numbers(n, 127, seed), numbers(n, 2+int(seed)%5, seed+1000)
		for at := range levels {
			levels[at] /= 1 + int(seed)*8%126
		}
		marks := truths(drawn)
		if list := accent.Groups(levels, marks); !slices.Equal(list, grouped(levels, marks)) {
			t.Fatalf("Groups of line %d: %v", seed, list)
		}
		same(t, order.Visual(levels), levels, marks)
		seen := order.Visual(numbers(n, 4, seed+2000))
		same(t, seen, levels, marks)
	}
}

// R3: what is answered is one's own, and what was given is as it was.
func TestOwnMemory(t *testing.T) {
	seenRoom, levelRoom := []int{2, 1, 0, 77, 77}, []int{1, 1, 1, 77, 77}
	markRoom := []bool{false, true, true, true, true}
	seen, levels, marks := seenRoom[:3], levelRoom[:3], markRoom[:3]
	groups := accent.Groups(levels, marks)
	groups = append(groups, span(99, 99))
	for at := range groups {
		groups[at] = span(99, 99)
	}
	for _, m := range [][]bool{marks, {false, false, false}} {
		list, _ := accent.Order(seen, levels, m)
		list = append(list, 99)
		list = list[:cap(list)]
		for at := range list {
			list[at] = 99
		}
	}
	if !slices.Equal(seenRoom, []int{2, 1, 0, 77, 77}) || !slices.Equal(levelRoom, []int{1, 1, 1, 77, 77}) || !slices.Equal(markRoom, []bool{false, true, true, true, true}) {
		t.Error("what was given is not what it was", seenRoom, levelRoom, markRoom)
	}
	if again := accent.Groups(levels, marks); !slices.Equal(again, []api.Span{span(0, 3)}) {
		t.Error("Groups is not what it was", again)
	}
	if again, _ := accent.Order(seen, levels, marks); !slices.Equal(again, []int{0, 1, 2}) {
		t.Error("Order is not what it was", again)
	}
}

// A text of MaxText, of one group, and of as many as there may be.
func TestMaxText(t *testing.T) {
	const n = api.MaxText
	levels, marks := slices.Repeat([]int{1}, n), slices.Repeat([]bool{false, true}, n/2)
	seen := order.Visual(levels)
	list, errno := accent.Order(seen, levels, marks)
	if errno != api.OK || len(accent.Groups(levels, marks)) != n/2 {
		t.Fatal("Order and Groups", errno)
	}
	for at, place := range list {
		if place != n-2-at+at%2*2 {
			t.Fatal("place", at, place)
		}
	}
	marks = slices.Repeat([]bool{true}, n)
	marks[0] = false
	list, errno = accent.Order(seen, levels, marks)
	if errno != api.OK || !slices.IsSorted(list) || len(list) != n {
		t.Error("Order of one group", errno)
	}
}
