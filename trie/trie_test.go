package trie_test

import (
	"math"
	"slices"
	"testing"

	"naskh/api"
	"naskh/trie"
)

const (
	blockSize = 128
	allCodes  = 0x110000
)

// of is a range in fewer words.
func of(lo, hi, value int) api.Range { return api.Range{Lo: lo, Hi: hi, Value: value} }

// noCodes are numbers that are no code.
var noCodes = []int{
	-1, -2, -blockSize, -allCodes, math.MinInt, math.MinInt + 5,
	0x110000, 0x110001, 0x11007F, 0x110080, 0x11D800, 0x120000, 1 << 31, 1<<32 | 5, math.MaxInt,
}

// edgeLists are ranges at the ends of blocks, of codes, and of what values there are.
var edgeLists = [][]api.Range{
	nil,
	{of(5, 6, 9)},
	{of(0, 0, 9)}, {of(0x10FFFF, 0x10FFFF, 9)}, {of(0, 0x10FFFF, 9)}, {of(0, 0x10FFFF, 1)},
	{of(0, 127, 9)}, {of(0, 128, 9)}, {of(127, 127, 9)}, {of(128, 128, 9)}, {of(127, 128, 9)}, {of(128, 255, 9)}, {of(127, 256, 9)},
	{of(5, 5, 9), of(7, 7, 9)}, {of(5, 5, 9), of(6, 6, 9)}, {of(5, 5, 9), of(6, 6, 8)}, {of(5, 6, 9), of(7, 7, 1), of(8, 9, 9)},
	{of(5, 6, 1)}, {of(0, 127, 1), of(128, 300, 2)}, {of(3, 127, 4), of(128, 260, 4), of(261, 261, 4)},
	{of(0x5, 0x6, 9), of(0x85, 0x86, 9), of(0x105, 0x106, 9)}, {of(0x5, 0x6, 9), of(0x85, 0x86, 8), of(0x105, 0x106, 9), of(0x185, 0x187, 9)},
	{of(0, 63, 2), of(64, 1000, 3), of(1001, 0x10FFFF, 2)}, {of(0x10FF80, 0x10FFFF, 2)}, {of(0x10FF7F, 0x10FFFE, 2)},
	{of(0xD7FF, 0xE000, 7)}, {of(0xD800, 0xDFFF, 7)},
	{of(1, 2, 0), of(3, 4, -1), of(5, 6, math.MinInt), of(7, 8, math.MaxInt), of(9, 10, 1<<32), of(11, 12, 1<<32|1)},
	{of(64, 191, math.MinInt), of(192, 319, math.MaxInt)},
}

// made tells a table, or ends the test.
func made(t *testing.T, l []api.Range, none int) *trie.Table {
	t.Helper()
	x, e := trie.Build(l, none)
	if e != api.OK || x == nil {
		t.Fatalf("Build(%v, %d): %d", l, none, e)
	}
	return x
}

// values tells the value of each code, range by range.
func values(l []api.Range, none int) []int {
	v := slices.Repeat([]int{none}, allCodes)
	for _, r := range l {
		for code := r.Lo; code <= r.Hi; code++ {
			v[code] = r.Value
		}
	}
	return v
}

// blocks tells how many unlike blocks there are.
func blocks(v []int) int {
	known := map[[blockSize]int]bool{}
	for b := range slices.Chunk(v, blockSize) {
		known[[blockSize]int(b)] = true
	}
	return len(known)
}

// stretches tells the longest ranges of one value: each begins where the code ahead has another one, and ends where the next one has.
func stretches(v []int) []api.Range {
	var l []api.Range
	for lo := 0; lo < len(v); {
		hi := lo
		for hi+1 < len(v) && v[hi+1] == v[lo] {
			hi++
		}
		l = append(l, of(lo, hi, v[lo]))
		lo = hi + 1
	}
	return l
}

// counts tells how many codes have each value.
func counts(all []api.Range) map[int]int {
	n := map[int]int{}
	for _, r := range all {
		n[r.Value] += r.Hi - r.Lo + 1
	}
	return n
}

// compare holds a table against the promises' words.
func compare(t *testing.T, x *trie.Table, l []api.Range, none int) {
	t.Helper()
	v := values(l, none)
	for code, value := range v {
		if got := x.Get(code); got != value {
			t.Fatalf("%v, %d: Get(%#x): %d, not %d", l, none, code, got, value)
		}
	}
	for _, no := range noCodes {
		if got := x.Get(no); got != none {
			t.Fatalf("%v, %d: Get(%#x): %d", l, none, no, got)
		}
	}
	if got, want := x.Blocks(), blocks(v); got != want {
		t.Fatalf("%v, %d: Blocks: %d, not %d", l, none, got, want)
	}
	all := stretches(v)
	count := counts(all)
	// Of many values the first ones will do.
	for _, r := range all[:min(len(all), 60)] {
		if got := x.Count(r.Value); got != count[r.Value] {
			t.Fatalf("%v, %d: Count(%d): %d, not %d", l, none, r.Value, got, count[r.Value])
		}
	}
	want := slices.DeleteFunc(all, func(r api.Range) bool { return r.Value == none })
	if got := x.Ranges(); !slices.Equal(got, want) {
		t.Fatalf("%v, %d: Ranges: %v, not %v", l, none, got, want)
	}
}

// manyRanges are as many ranges as there may be, all of unlike values, in unlike blocks.
func manyRanges() []api.Range {
	var l []api.Range
	for i := range api.MaxRanges {
		lo := i*2*blockSize + 5 + i%100
		l = append(l, of(lo, lo+i%120, i+1))
	}
	return l
}

// P6.1: Build of 5 to 6, and what is beside them.
func TestBuild(t *testing.T) {
	x := made(t, []api.Range{of(5, 6, 9)}, 1)
	for code, want := range map[int]int{0: 1, 4: 1, 5: 9, 6: 9, 7: 1, 133: 1, 0x10FFFF: 1, -1: 1, 0x110000: 1, 0x110005: 1} {
		if got := x.Get(code); got != want {
			t.Errorf("Get(%#x): %d", code, got)
		}
	}
	if x.Blocks() != 2 || x.Count(9) != 2 || x.Count(1) != allCodes-2 || x.Count(0) != 0 {
		t.Errorf("%d blocks; %d, %d, %d", x.Blocks(), x.Count(9), x.Count(1), x.Count(0))
	}
}

// P6.1, P6.2: ranges at edges, with values around none and far away.
func TestEdges(t *testing.T) {
	for _, l := range edgeLists {
		for _, none := range []int{0, 1, 9, math.MinInt} {
			compare(t, made(t, l, none), l, none)
		}
	}
}

// P6.1, P6.2: the data of Unicode.
func TestData(t *testing.T) {
	for _, l := range [][]api.Range{api.BidiRanges(), api.JoinRanges(), api.Combining(), api.Wides()} {
		compare(t, made(t, l, 0), l, 0)
	}
}

// P6.1: what Build refuses: ranges that do not rise, or go beyond codes.
func TestBuildRefuses(t *testing.T) {
	for _, l := range [][]api.Range{
		{of(6, 5, 1)}, {of(1, 0, 1)}, {of(-1, 0, 1)}, {of(-1, -1, 1)}, {of(-5, 5, 1)}, {of(0, -1, 1)},
		{of(0, 0x110000, 1)}, {of(0x110000, 0x110000, 1)}, {of(0x11D800, 0x11D800, 1)}, {of(0, math.MaxInt, 1)},
		{of(math.MinInt, math.MaxInt, 1)}, {of(math.MinInt, math.MinInt, 1)}, {of(math.MaxInt, math.MaxInt, 1)}, {of(math.MaxInt, math.MinInt, 1)},
		{of(5, 6, 1), of(6, 6, 1)}, {of(5, 6, 1), of(6, 7, 2)}, {of(5, 6, 1), of(5, 6, 1)}, {of(5, 6, 1), of(0, 1, 1)}, {of(5, 9, 1), of(6, 7, 1)},
		{of(5, 6, 1), of(8, 7, 1)}, {of(5, 6, 1), of(7, 0x110000, 1)}, {of(5, 6, 1), of(7, 8, 1), of(8, 9, 1)},
		{of(6, 5, 1), of(7, 8, 1)}, {of(0, 1, 1), of(-1, 3, 1)}, {of(0, 0x10FFFF, 1), of(0, 0x10FFFF, 1)}, {of(0, 0x10FFFF, 1), of(0x10FFFF, 0x10FFFF, 1)},
	} {
		if x, e := trie.Build(l, 1); e != api.ErrOrder || x != nil {
			t.Errorf("Build(%v): %v, %d", l, x, e)
		}
	}
}

// P6.1: as many ranges as there may be, and one more, which is told ahead of their order.
func TestMaxRanges(t *testing.T) {
	l := manyRanges()
	compare(t, made(t, l, 0), l, 0)
	more := append(l, of(0x10FFFF, 0x10FFFF, 1))
	if x, e := trie.Build(more, 0); e != api.ErrLong || x != nil {
		t.Errorf("one more: %d", e)
	}
	more[0] = of(6, 5, 1)
	if x, e := trie.Build(more, 0); e != api.ErrLong || x != nil {
		t.Errorf("one more, not in order: %d", e)
	}
	if x, e := trie.Build(more[:api.MaxRanges], 0); e != api.ErrOrder || x != nil {
		t.Errorf("not in order: %d", e)
	}
}

// P6.2: how many blocks there are, by hand.
func TestBlocks(t *testing.T) {
	for _, c := range []struct {
		name string
		l    []api.Range
		none int
		want int
	}{
		{"nothing", nil, 1, 1},
		{"all one value", []api.Range{of(0, 0x10FFFF, 9)}, 1, 1},
		{"none told", []api.Range{of(5, 300, 1)}, 1, 1},
		{"one whole block", []api.Range{of(128, 255, 9)}, 1, 2},
		{"two whole blocks alike", []api.Range{of(128, 255, 9), of(512, 639, 9)}, 1, 2},
		{"two whole blocks unlike", []api.Range{of(128, 255, 9), of(256, 383, 8)}, 1, 3},
		{"over two blocks", []api.Range{of(127, 128, 9)}, 1, 3},
		{"the same places in blocks", []api.Range{of(5, 6, 9), of(133, 134, 9), of(0x10FF85, 0x10FF86, 9)}, 1, 2},
		{"other places in blocks", []api.Range{of(5, 6, 9), of(134, 135, 9)}, 1, 3},
		{"the same values by other ranges", []api.Range{of(5, 6, 9), of(133, 133, 9), of(134, 134, 9)}, 1, 2},
		{"over many blocks", []api.Range{of(100, 10000, 9)}, 1, 4},
		{"the last code", []api.Range{of(0x10FFFF, 0x10FFFF, 9)}, 1, 2},
	} {
		if got := made(t, c.l, c.none).Blocks(); got != c.want {
			t.Errorf("%s: %d, not %d", c.name, got, c.want)
		}
	}
}

// P6.2: Ranges, by hand: what is alike side by side is one, none is left out.
func TestRanges(t *testing.T) {
	for _, c := range []struct {
		l    []api.Range
		none int
		want []api.Range
	}{
		{nil, 0, nil},
		{[]api.Range{of(5, 6, 9), of(7, 7, 9)}, 1, []api.Range{of(5, 7, 9)}},
		{[]api.Range{of(5, 6, 9), of(8, 8, 9)}, 1, []api.Range{of(5, 6, 9), of(8, 8, 9)}},
		{[]api.Range{of(5, 6, 9), of(7, 7, 1), of(8, 8, 9)}, 1, []api.Range{of(5, 6, 9), of(8, 8, 9)}},
		{[]api.Range{of(5, 6, 9), of(7, 7, 8), of(8, 8, 9)}, 1, []api.Range{of(5, 6, 9), of(7, 7, 8), of(8, 8, 9)}},
		{[]api.Range{of(0, 127, 9), of(128, 255, 9), of(256, 0x10FFFF, 9)}, 1, []api.Range{of(0, 0x10FFFF, 9)}},
		{[]api.Range{of(0, 127, 1), of(128, 0x10FFFF, 1)}, 1, nil},
		{[]api.Range{of(0, 0, 0), of(1, 1, 9), of(0x10FFFF, 0x10FFFF, 3)}, 9, []api.Range{of(0, 0, 0), of(0x10FFFF, 0x10FFFF, 3)}},
	} {
		if got := made(t, c.l, c.none).Ranges(); !slices.Equal(got, c.want) {
			t.Errorf("Ranges of %v, %d: %v", c.l, c.none, got)
		}
	}
}

// P6.2: Count of values that codes have, of none, and of such as no code has.
func TestCount(t *testing.T) {
	x := made(t, []api.Range{of(0, 299, 9), of(300, 300, 8), of(0x10FF00, 0x10FFFF, 9)}, 7)
	for value, want := range map[int]int{9: 556, 8: 1, 7: allCodes - 557, 0: 0, 6: 0, -9: 0, 9 + 1<<32: 0, math.MaxInt: 0, math.MinInt: 0} {
		if got := x.Count(value); got != want {
			t.Errorf("Count(%d): %d, not %d", value, got, want)
		}
	}
}

// P6.2: a table that is nil, or that no call made.
func TestNotMade(t *testing.T) {
	for name, x := range map[string]*trie.Table{"nil": nil, "zero": {}, "new": new(trie.Table)} {
		for _, code := range append([]int{0, 5, 127, 128, 0x10FFFF}, noCodes...) {
			if got := x.Get(code); got != 0 {
				t.Errorf("%s: Get(%#x): %d", name, code, got)
			}
		}
		if x.Blocks() != 0 || len(x.Ranges()) != 0 {
			t.Errorf("%s: %d, %v", name, x.Blocks(), x.Ranges())
		}
		for _, value := range []int{0, 1, -1, math.MaxInt, math.MinInt} {
			if got := x.Count(value); got != 0 {
				t.Errorf("%s: Count(%d): %d", name, value, got)
			}
		}
	}
}

// P6.3: Build of Ranges makes a table of the same values.
func TestThereAndBack(t *testing.T) {
	for _, l := range append(slices.Clone(edgeLists), api.BidiRanges(), api.Combining(), manyRanges()) {
		for _, none := range []int{0, 9} {
			x := made(t, l, none)
			again := made(t, x.Ranges(), none)
			compare(t, again, l, none)
			if !slices.Equal(again.Ranges(), x.Ranges()) {
				t.Fatalf("%v, %d: other Ranges", l, none)
			}
		}
	}
}

// R3: what is handed in stays, its spare room too, and is not kept; what is answered is new. R4: the same calls answer the same.
func TestNothingShared(t *testing.T) {
	l := []api.Range{of(5, 6, 9), of(7, 7, 9), of(9, 400, 8), of(1, 0, 0)}
	was := slices.Clone(l)
	x, y := made(t, l[:3], 1), made(t, l[:3], 1)
	if !slices.Equal(l, was) {
		t.Errorf("Build: %v", l)
	}
	clear(l)
	a := x.Ranges()
	clear(a)
	want := []api.Range{of(5, 7, 9), of(9, 400, 8)}
	if !slices.Equal(x.Ranges(), want) || !slices.Equal(y.Ranges(), want) || x.Blocks() != y.Blocks() {
		t.Errorf("Ranges: %v, %v", x.Ranges(), y.Ranges())
	}
	compare(t, x, was[:3], 1)
}
