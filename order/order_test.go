package order_test

import (
	"math"
	"slices"
	"testing"

	"naskh/api"
	"naskh/order"
)

// each calls f with every list of n of these.
func each(n int, items []int, f func(list []int)) {
	all := 1
	for range n {
		all *= len(items)
	}
	for which := range all {
		list := make([]int, n)
		for at := range list {
			list[at] = items[which%len(items)]
			which /= len(items)
		}
		f(list)
	}
}

// numbers tells n numbers below limit that look as if they were drawn, always the same ones.
func numbers(n, limit int, seed uint64) []int {
	list := make([]int, n)
	for at := range list {
		seed = seed*6364136223846793005 + 1442695040888963407
		list[at] = int(seed>>33) % limit
	}
	return list
}

// identity tells the numbers below n in order.
func identity(n int) []int {
	list := make([]int, n)
	for at := range list {
		list[at] = at
	}
	return list
}

// asCounted tells as which level one counts, by the words of P29.1.
func asCounted(level int) int {
	if level < 0 {
		return 0
	}
	if level > 126 {
		return 126
	}
	return level
}

// turned is P29.1 word by word: the places in order, then turned round level by level, each longest row in the order as it is then.
func turned(levels []int) []int {
	list := identity(len(levels))
	greatest, leastOdd := 0, 1000
	for _, level := range levels {
		level = asCounted(level)
		greatest = max(greatest, level)
		if level%2 == 1 {
			leastOdd = min(leastOdd, level)
		}
	}
	for level := greatest; level >= leastOdd; level-- {
		for lo := 0; lo < len(list); lo++ {
			hi := lo
			for hi < len(list) && asCounted(levels[list[hi]]) >= level {
				hi++
			}
			for i, j := lo, hi-1; i < j; i, j = i+1, j-1 {
				list[i], list[j] = list[j], list[i]
			}
			lo = hi
		}
	}
	return list
}

// same says whether Visual tells what the model does, and whether that is a permutation (P29.3).
func same(t *testing.T, levels []int) {
	t.Helper()
	given := slices.Clone(levels)
	list, model := order.Visual(levels), turned(levels)
	if !slices.Equal(list, model) {
		t.Fatalf("Visual of %v: %v, not %v", levels, list, model)
	}
	if !order.Permutes(list) {
		t.Fatalf("Visual of %v does not permute: %v", levels, list)
	}
	if !slices.Equal(levels, given) {
		t.Fatalf("Visual changed %v to %v", given, levels)
	}
}

// P29.1, by hand.
func TestVisual(t *testing.T) {
	for _, c := range []struct{ levels, want []int }{
		{nil, nil},
		{[]int{}, nil},
		{[]int{0}, []int{0}},
		{[]int{1}, []int{0}},
		{[]int{0, 1, 1, 0}, []int{0, 2, 1, 3}},
		{[]int{0, 0, 0}, []int{0, 1, 2}},
		{[]int{1, 1, 1}, []int{2, 1, 0}},
		{[]int{2, 2, 2}, []int{0, 1, 2}},
		{[]int{0, 2, 2, 0}, []int{0, 1, 2, 3}},
		{[]int{0, 4, 2, 0}, []int{0, 1, 2, 3}},
		{[]int{1, 2, 2, 1}, []int{3, 1, 2, 0}},
		{[]int{0, 1, 2, 2, 1, 0}, []int{0, 4, 2, 3, 1, 5}},
		{[]int{0, 3, 3, 2, 2, 0}, []int{0, 2, 1, 3, 4, 5}},
		{[]int{2, 2, 3, 3, 4, 4, 3}, []int{0, 1, 6, 4, 5, 3, 2}},
		{[]int{1, 3, 3, 1}, []int{3, 2, 1, 0}},
		{[]int{3, 1}, []int{1, 0}},
		{[]int{1, 2, 3, 4, 5}, []int{1, 3, 4, 2, 0}},
		{[]int{5, 4, 3, 2, 1}, []int{4, 2, 0, 1, 3}},
		{[]int{1, 0, 1, 1, 0, 1}, []int{0, 1, 3, 2, 4, 5}},
		{[]int{-1, -1, -1}, []int{0, 1, 2}},
		{[]int{-1, 1, 1, 0}, []int{0, 2, 1, 3}},
		{[]int{127, 127}, []int{0, 1}},
		{[]int{125, 127, 129, 126}, []int{1, 2, 3, 0}},
		{[]int{125, 125, 124}, []int{1, 0, 2}},
		{[]int{1, 126, 128, 1}, []int{3, 1, 2, 0}},
		{[]int{math.MinInt, 1, math.MaxInt, math.MaxInt - 1, 1, math.MinInt + 1}, []int{0, 4, 2, 3, 1, 5}},
		{[]int{math.MaxInt, math.MaxInt}, []int{0, 1}},
	} {
		if list := order.Visual(c.levels); !slices.Equal(list, c.want) {
			t.Errorf("Visual of %v: %v, not %v", c.levels, list, c.want)
		}
	}
}

// P29.1 and P29.3, every line of few places.
func TestVisualAll(t *testing.T) {
	for n := range 7 {
		each(n, []int{0, 1, 2, 3, 4, 5}, func(levels []int) { same(t, levels) })
	}
	for n := range 11 {
		each(n, []int{0, 1, 2}, func(levels []int) { same(t, levels) })
	}
	for n := range 5 {
		each(n, []int{math.MinInt, -2, -1, 0, 1, 62, 124, 125, 126, 127, 128, math.MaxInt}, func(levels []int) { same(t, levels) })
	}
}

// P29.1 and P29.3, long lines of all levels.
func TestVisualLong(t *testing.T) {
	for seed := range 300 {
		limit := []int{2, 3, 5, 9, 62, 127, 131}[seed%7]
		levels := numbers(200+seed, limit, uint64(seed))
		same(t, levels)
		slices.Sort(levels[:len(levels)/2])
		same(t, levels)
		slices.Sort(levels)
		same(t, levels)
		slices.Reverse(levels)
		same(t, levels)
	}
}

// P29.2, by hand.
func TestPermutes(t *testing.T) {
	for _, c := range []struct {
		list []int
		want bool
	}{
		{nil, true},
		{[]int{}, true},
		{[]int{0}, true},
		{[]int{1}, false},
		{[]int{-1}, false},
		{[]int{0, 0}, false},
		{[]int{0, 1}, true},
		{[]int{1, 0}, true},
		{[]int{1, 1}, false},
		{[]int{0, 2}, false},
		{[]int{1, 2}, false},
		{[]int{2, 0, 1}, true},
		{[]int{2, 0, 3}, false},
		{[]int{2, 0, 2}, false},
		{[]int{2, 0, -1}, false},
		{[]int{math.MaxInt, 0}, false},
		{[]int{math.MinInt, 0}, false},
	} {
		if order.Permutes(c.list) != c.want {
			t.Errorf("Permutes of %v: not %v", c.list, c.want)
		}
	}
}

// permutes is P29.2 word by word.
func permutes(list []int) bool {
	for number := range len(list) {
		times := 0
		for _, at := range list {
			if at == number {
				times++
			}
		}
		if times != 1 {
			return false
		}
	}
	return true
}

// P29.2 and P29.3, every list of few places.
func TestAll(t *testing.T) {
	check := func(list []int) {
		given := slices.Clone(list)
		right := permutes(list)
		if order.Permutes(list) != right {
			t.Fatalf("Permutes of %v: not %v", list, right)
		}
		where, err := order.Inverse(list)
		checkInverse(t, list, where, err, right)
		for size := range len(list) + 3 {
			l := numbers(size, 1000, uint64(size))
			there, err := order.Apply(list, l)
			checkApply(t, list, l, there, err, right)
		}
		if !slices.Equal(list, given) {
			t.Fatalf("changed %v to %v", given, list)
		}
	}
	for n := range 5 {
		each(n, []int{math.MinInt, -1, 0, 1, 2, 3, 4, math.MaxInt}, check)
	}
	each(5, []int{-1, 0, 1, 2, 3, 4, 5}, check)
	each(6, []int{0, 1, 2, 3, 4, 5}, check)
}

// checkInverse looks at what Inverse told of a list.
func checkInverse(t *testing.T, list, where []int, err api.Errno, right bool) {
	t.Helper()
	if !right {
		if err != api.ErrMap || len(where) != 0 {
			t.Fatalf("Inverse of %v: %v, %d", list, where, err)
		}
		return
	}
	if err != api.OK || len(where) != len(list) {
		t.Fatalf("Inverse of %v: %v, %d", list, where, err)
	}
	for place, i := range where {
		if list[i] != place {
			t.Fatalf("Inverse of %v: %v", list, where)
		}
	}
	if back, err := order.Inverse(where); err != api.OK || !slices.Equal(back, list) {
		t.Fatalf("Inverse of Inverse of %v: %v, %d", list, back, err)
	}
}

// checkApply looks at what Apply told of a list and l.
func checkApply(t *testing.T, list, l, there []int, err api.Errno, right bool) {
	t.Helper()
	if !right || len(l) != len(list) {
		if err != api.ErrMap || len(there) != 0 {
			t.Fatalf("Apply of %v to %v: %v, %d", list, l, there, err)
		}
		return
	}
	if err != api.OK || len(there) != len(list) {
		t.Fatalf("Apply of %v to %v: %v, %d", list, l, there, err)
	}
	for i, at := range list {
		if there[i] != l[at] {
			t.Fatalf("Apply of %v to %v: %v", list, l, there)
		}
	}
}

// P29.2, by hand.
func TestInverseAndApply(t *testing.T) {
	if where, err := order.Inverse([]int{1, 2, 3, 0}); err != api.OK || !slices.Equal(where, []int{3, 0, 1, 2}) {
		t.Error("Inverse", where, err)
	}
	if where, err := order.Inverse(nil); err != api.OK || len(where) != 0 {
		t.Error("Inverse of none", where, err)
	}
	if where, err := order.Inverse([]int{0, 1, 3}); err != api.ErrMap || len(where) != 0 {
		t.Error("Inverse of what does not permute", where, err)
	}
	l := []int{math.MaxInt, -5, 7, 7}
	if there, err := order.Apply([]int{1, 2, 3, 0}, l); err != api.OK || !slices.Equal(there, []int{-5, 7, 7, math.MaxInt}) {
		t.Error("Apply", there, err)
	}
	if there, err := order.Apply(nil, nil); err != api.OK || len(there) != 0 {
		t.Error("Apply of none", there, err)
	}
	for _, list := range [][]int{nil, {0}, {0, 1, 2}, {0, 1, 2, 3, 4}, {0, 1, 2, 2}, {0, 1, 2, 4}, {-1, 0, 1, 2}} {
		if there, err := order.Apply(list, l); err != api.ErrMap || len(there) != 0 {
			t.Error("Apply of", list, there, err)
		}
	}
}

// R3: what was given stays what it was, its spare room too, and what was answered may be changed.
func TestOwnMemory(t *testing.T) {
	room := []int{1, 2, 0, 77, 77}
	list := room[:3]
	visual := order.Visual(list)
	where, _ := order.Inverse(list)
	there, _ := order.Apply(list, list)
	for _, l := range [][]int{visual, where, there} {
		l = append(l, 99)
		l = l[:cap(l)]
		for i := range l {
			l[i] = 99
		}
	}
	if !slices.Equal(room, []int{1, 2, 0, 77, 77}) {
		t.Error("what was given is not what it was", room)
	}
	if again, _ := order.Inverse(list); !slices.Equal(again, []int{2, 0, 1}) {
		t.Error("Inverse is not what it was", again)
	}
	if again := order.Visual(list); !slices.Equal(again, []int{1, 0, 2}) {
		t.Error("Visual is not what it was", again)
	}
}

// Lines of the greatest size: all levels in one another, up and down again, and two levels far from one another.
func TestMaxText(t *testing.T) {
	const n = api.MaxText
	levels := make([]int, n)
	for at := range levels {
		levels[at] = max(at, n-1-at) % 127
	}
	list := order.Visual(levels)
	where, err := order.Inverse(list)
	if len(list) != n || err != api.OK {
		t.Fatal("Visual and Inverse", len(list), err)
	}
	// Within a row of one level places stand next to one another, from the right if it is odd.
	for at := 1; at < n; at++ {
		if levels[at] == levels[at-1] && where[at]-where[at-1] != 1-levels[at]%2*2 {
			t.Fatal("two places of one level", at, where[at-1], where[at])
		}
	}
	for at := range levels {
		levels[at] = at % 2 * 126
	}
	if !slices.Equal(order.Visual(levels), identity(n)) {
		t.Error("levels without an odd one")
	}
	if there, err := order.Apply(list, identity(n)); err != api.OK || !slices.Equal(there, list) {
		t.Error("Apply", err)
	}
}
