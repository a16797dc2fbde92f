package mirror_test

import (
	"math"
	"slices"
	"testing"

	"naskh/api"
	"naskh/mirror"
)

// each calls f with every list of n of these.
func each(n int, items []int, f func(list []int)) {
	all := 1
	for range n {
		all *= len(items)
	}
	for which := range all {
		list := make([]int, n)
		for at := range list {
			list[at] = items[which%len(items)]
			which /= len(items)
		}
		f(list)
	}
}

// numbers tells n numbers below limit that look as if they were drawn, always the same ones.
func numbers(n, limit int, seed uint64) []int {
	list := make([]int, n)
	for at := range list {
		seed = seed*6364136223846793005 + 1442695040888963407
		list[at] = int(seed>>33) % limit
	}
	return list
}

// others tells the other code of each one that is in a pair.
func others() map[int]int {
	known := map[int]int{}
	for _, p := range api.Mirrors() {
		known[p.Open], known[p.Close] = p.Close, p.Open
	}
	return known
}

// same says whether the calls tell P32.1 word by word, and what follows (P32.2).
func same(t *testing.T, known map[int]int, codes, levels []int) {
	t.Helper()
	var model []int
	count := 0
	for at, code := range codes {
		other, paired := known[code]
		if levels[at]%2 == 0 || !paired {
			other = code
		}
		if other != code {
			count++
		}
		model = append(model, other)
	}
	list := mirror.Codes(codes, levels)
	if !slices.Equal(list, model) {
		t.Fatalf("Codes of %x %v: %x, not %x", codes, levels, list, model)
	}
	if n := mirror.Count(codes, levels); n != count {
		t.Fatalf("Count of %x %v: %d, not %d", codes, levels, n, count)
	}
	if again := mirror.Codes(list, levels); !slices.Equal(again, codes) {
		t.Fatalf("Codes of Codes of %x %v: %x", codes, levels, again)
	}
	if n := mirror.Count(list, levels); n != count {
		t.Fatalf("Count of Codes of %x %v: %d", codes, levels, n)
	}
}

// P32.1, by hand.
func TestCodes(t *testing.T) {
	for _, c := range []struct {
		codes, levels, list []int
		count               int
	}{
		{nil, nil, nil, 0},
		{[]int{'('}, []int{1}, []int{')'}, 1},
		{[]int{')'}, []int{1}, []int{'('}, 1},
		{[]int{'('}, []int{0}, []int{'('}, 0},
		{[]int{'('}, []int{2}, []int{'('}, 0},
		{[]int{'('}, []int{125}, []int{')'}, 1},
		{[]int{'('}, []int{126}, []int{'('}, 0},
		{[]int{'('}, []int{127}, []int{')'}, 1},
		{[]int{'('}, []int{-1}, []int{')'}, 1},
		{[]int{'('}, []int{-2}, []int{'('}, 0},
		{[]int{'(', '('}, []int{math.MaxInt, math.MinInt}, []int{')', '('}, 1},
		{[]int{'(', 0x627, ')', 'a'}, []int{1, 1, 1, 2}, []int{')', 0x627, '(', 'a'}, 2},
		{[]int{'(', 'a', ')'}, []int{1, 2, 2}, []int{')', 'a', ')'}, 1},
		{[]int{'<', '[', '{', 0xAB, 0x2264}, []int{1, 1, 1, 1, 1}, []int{'>', ']', '}', 0xBB, 0x2265}, 5},
		{[]int{0x2329, 0x3008}, []int{1, 1}, []int{0x232A, 0x3009}, 2},
		{[]int{-'(', '(' + 1<<32, api.IllBase + '(', math.MaxInt, math.MinInt}, []int{1, 1, 1, 1, 1}, []int{-'(', '(' + 1<<32, api.IllBase + '(', math.MaxInt, math.MinInt}, 0},
	} {
		if list := mirror.Codes(c.codes, c.levels); !slices.Equal(list, c.list) {
			t.Errorf("Codes of %x %v: %x", c.codes, c.levels, list)
		}
		if n := mirror.Count(c.codes, c.levels); n != c.count {
			t.Errorf("Count of %x %v: %d", c.codes, c.levels, n)
		}
	}
}

// P32.1: as many of each, else none.
func TestUnlikeLengths(t *testing.T) {
	for coded := range 5 {
		for leveled := range 5 {
			codes, levels := slices.Repeat([]int{'('}, coded), slices.Repeat([]int{1}, leveled)
			list, n := mirror.Codes(codes, levels), mirror.Count(codes, levels)
			if coded != leveled && (len(list) != 0 || n != 0) {
				t.Errorf("%d codes and %d levels: %x %d", coded, leveled, list, n)
			}
			if coded == leveled && (!slices.Equal(list, slices.Repeat([]int{')'}, coded)) || n != coded) {
				t.Errorf("%d of each: %x %d", coded, list, n)
			}
		}
	}
}

// P32.1, P32.2: every code by itself, and numbers that are none, from the left and from the right.
func TestEveryCode(t *testing.T) {
	known := others()
	if len(known) != 2*len(api.Mirrors()) {
		t.Fatal("a code is in two pairs", len(known))
	}
	codes := []int{}
	for code := -300; code < api.IllBase+0x900; code++ {
		codes = append(codes, code)
	}
	for level := range 4 {
		same(t, known, codes, slices.Repeat([]int{level}, len(codes)))
	}
	same(t, known, codes, numbers(len(codes), 127, 1))
	for code := range 0x3100 {
		same(t, known, []int{code}, []int{1})
	}
}

// P32.1, P32.2: every short line of these.
func TestEveryShortLine(t *testing.T) {
	known := others()
	for n := range 5 {
		each(n, []int{'(', ')', 'a', 0xBB, -1}, func(codes []int) {
			each(n, []int{0, 1, 2, -1}, func(levels []int) { same(t, known, codes, levels) })
		})
	}
}

// P32.1, P32.2: long lines, many codes of which are mirrored.
func TestLongLines(t *testing.T) {
	known := others()
	for seed := range uint64(60) {
		codes, levels := numbers(400, 0x80, seed), numbers(400, 127, seed+500)
		for at := range codes {
			if pairs := api.Mirrors(); seed%2 == 0 && at%3 == 0 {
				codes[at] = pairs[codes[at]%len(pairs)].Open
			}
		}
		same(t, known, codes, levels)
	}
}

// R3: what is answered is one's own, and what was given is as it was.
func TestOwnMemory(t *testing.T) {
	codeRoom, levelRoom := []int{'(', 'a', 77, 77}, []int{1, 1, 77, 77}
	for _, levels := range [][]int{levelRoom[:2], {0, 0}} {
		list := mirror.Codes(codeRoom[:2], levels)
		list = append(list, 99)
		list = list[:cap(list)]
		for at := range list {
			list[at] = 99
		}
	}
	if !slices.Equal(codeRoom, []int{'(', 'a', 77, 77}) || !slices.Equal(levelRoom, []int{1, 1, 77, 77}) {
		t.Error("what was given is not what it was", codeRoom, levelRoom)
	}
	if again := mirror.Codes(codeRoom[:2], levelRoom[:2]); !slices.Equal(again, []int{')', 'a'}) {
		t.Error("Codes is not what it was", again)
	}
}

// A text of MaxText.
func TestMaxText(t *testing.T) {
	const n = api.MaxText
	codes, levels := slices.Repeat([]int{'(', 'a', ')', 0x627}, n/4), slices.Repeat([]int{1}, n)
	list := mirror.Codes(codes, levels)
	if !slices.Equal(list, slices.Repeat([]int{')', 'a', '(', 0x627}, n/4)) || mirror.Count(codes, levels) != n/2 {
		t.Error("Codes and Count", len(list))
	}
}
