package lamalef_test

import (
	"math"
	"slices"
	"testing"

	"naskh/api"
	"naskh/forms"
	"naskh/join"
	"naskh/lamalef"
	"naskh/props"
)

// Codes in words.
const (
	lam     = 0x644
	alef    = 0x627
	madda   = 0x622
	beh     = 0x628
	reh     = 0x631
	fatha   = 0x64E
	tatweel = 0x640
	space   = 0x20
)

// far are numbers that are no place of any text here.
var far = []int{-1, -2, math.MinInt, math.MinInt + 1, 1 << 32, math.MaxInt - 1, math.MaxInt}

// to is a pair in fewer words.
func to(open, close int) api.Pair { return api.Pair{Open: open, Close: close} }

// found tells what Find is to answer, by the words of the promise.
func found(text, types []int, through bool) []api.Pair {
	var l []api.Pair
	for at := range text {
		next := join.Behind(types, at)
		if text[at] != lam || next < 0 || !slices.Contains([]int{0x622, 0x623, 0x625, 0x627}, text[next]) {
			continue
		}
		if through || next-at == 1 {
			l = append(l, to(at, next))
		}
	}
	return l
}

// became tells what Codes is to answer of one pair.
func became(text, types []int, p api.Pair) int {
	if p.Open < 0 || p.Close < 0 || p.Open >= len(text) || p.Close >= len(text) {
		return 0
	}
	for _, l := range api.Ligatures() {
		if l.Alef != text[p.Close] {
			continue
		}
		if ahead := join.Ahead(types, p.Open); ahead >= 0 && join.Joined(types, ahead) {
			return l.Final
		}
		return l.Isolated
	}
	return 0
}

// each calls f with every text of n of these codes.
func each(n int, codes []int, f func(text []int)) {
	all := 1
	for range n {
		all *= len(codes)
	}
	for which := range all {
		text := make([]int, n)
		for at := range text {
			text[at] = codes[which%len(codes)]
			which /= len(codes)
		}
		f(text)
	}
}

// pairs tells every pair of places of n, and of those that lie outside, but near.
func pairs(n int) []api.Pair {
	var l []api.Pair
	for open := -1; open <= n+1; open++ {
		for close := -1; close <= n+1; close++ {
			l = append(l, to(open, close))
		}
	}
	return l
}

// holds fails unless Find and Codes answer what the promises say.
func holds(t *testing.T, text, types []int) {
	t.Helper()
	for _, through := range []bool{false, true} {
		if got, want := lamalef.Find(text, types, through), found(text, types, through); !slices.Equal(got, want) {
			t.Fatalf("Find(%#x, %d, %v): %v, not %v", text, types, through, got, want)
		}
	}
	l := pairs(len(text))
	got := lamalef.Codes(text, types, l)
	if len(got) != len(l) {
		t.Fatalf("%d codes of %d pairs", len(got), len(l))
	}
	for i, p := range l {
		if want := became(text, types, p); got[i] != want {
			t.Fatalf("Codes(%#x, %d, %v): %#x, not %#x", text, types, p, got[i], want)
		}
	}
}

// P14.1: Alef of each code, and of what is none.
func TestAlef(t *testing.T) {
	alefs := 0
	for code := range api.MaxCode + 1 {
		if lamalef.Alef(code) {
			alefs++
		}
	}
	if alefs != 4 || len(api.Ligatures()) != 4 {
		t.Errorf("%d alefs", alefs)
	}
	for _, code := range []int{0x622, 0x623, 0x625, 0x627} {
		if !lamalef.Alef(code) {
			t.Errorf("%#x is none", code)
		}
	}
	for _, code := range []int{
		0, -1, 0x621, 0x624, 0x626, lam, 0x671, 0x672, 0xFE8D, 0xFEF5, 0xFEFB, 0xFEFC, -alef, api.MaxCode, 0x110627, 1<<32 | alef, math.MinInt, math.MinInt + alef, math.MaxInt,
	} {
		if lamalef.Alef(code) {
			t.Errorf("%#x is one", code)
		}
	}
}

// P14.1, P14.2: texts by hand, with the types that their codes have: the pairs that there are, through what is passed over or not, and what they become.
func TestFind(t *testing.T) {
	p := props.New()
	for _, e := range []struct {
		text      []int
		far, near []api.Pair
		became    []int
	}{
		{nil, nil, nil, nil}, {[]int{}, nil, nil, nil}, {[]int{lam}, nil, nil, nil}, {[]int{alef}, nil, nil, nil}, {[]int{alef, lam}, nil, nil, nil},
		{[]int{lam, alef}, []api.Pair{to(0, 1)}, []api.Pair{to(0, 1)}, []int{0xFEFB}},
		{[]int{beh, lam, alef}, []api.Pair{to(1, 2)}, []api.Pair{to(1, 2)}, []int{0xFEFC}},
		{[]int{lam, madda, lam, 0x623, lam, 0x625}, []api.Pair{to(0, 1), to(2, 3), to(4, 5)}, []api.Pair{to(0, 1), to(2, 3), to(4, 5)}, []int{0xFEF5, 0xFEF7, 0xFEF9}},
		{[]int{beh, lam, madda, beh, lam, 0x623, beh, lam, 0x625}, []api.Pair{to(1, 2), to(4, 5), to(7, 8)}, []api.Pair{to(1, 2), to(4, 5), to(7, 8)}, []int{0xFEF6, 0xFEF8, 0xFEFA}},
		{[]int{lam, fatha, alef}, []api.Pair{to(0, 2)}, nil, []int{0xFEFB}}, {[]int{beh, fatha, lam, fatha, fatha, alef}, []api.Pair{to(2, 5)}, nil, []int{0xFEFC}},
		{[]int{beh, fatha, lam, alef, fatha}, []api.Pair{to(2, 3)}, []api.Pair{to(2, 3)}, []int{0xFEFC}},
		{[]int{lam, fatha, alef, lam, alef}, []api.Pair{to(0, 2), to(3, 4)}, []api.Pair{to(3, 4)}, []int{0xFEFB, 0xFEFB}},
		{[]int{lam, lam, alef}, []api.Pair{to(1, 2)}, []api.Pair{to(1, 2)}, []int{0xFEFC}}, {[]int{lam, alef, alef}, []api.Pair{to(0, 1)}, []api.Pair{to(0, 1)}, []int{0xFEFB}},
		{[]int{lam, tatweel, alef}, nil, nil, nil}, {[]int{tatweel, lam, alef}, []api.Pair{to(1, 2)}, []api.Pair{to(1, 2)}, []int{0xFEFC}},
		{[]int{reh, lam, alef}, []api.Pair{to(1, 2)}, []api.Pair{to(1, 2)}, []int{0xFEFB}}, {[]int{space, lam, alef, space}, []api.Pair{to(1, 2)}, []api.Pair{to(1, 2)}, []int{0xFEFB}},
		{[]int{lam, space, alef}, nil, nil, nil}, {[]int{lam, beh, alef}, nil, nil, nil}, {[]int{lam, fatha}, nil, nil, nil}, {[]int{lam, 0x671}, nil, nil, nil},
		{[]int{lam, 0xFE8D}, nil, nil, nil}, {[]int{0xFEDF, alef}, nil, nil, nil}, {[]int{lam, 0x110627}, nil, nil, nil}, {[]int{-lam, alef}, nil, nil, nil},
	} {
		types := p.Joins(e.text)
		if l := lamalef.Find(e.text, types, true); !slices.Equal(l, e.far) {
			t.Errorf("%#x, through: %v", e.text, l)
		}
		if l := lamalef.Find(e.text, types, false); !slices.Equal(l, e.near) {
			t.Errorf("%#x: %v", e.text, l)
		}
		if l := lamalef.Codes(e.text, types, e.far); !slices.Equal(l, e.became) {
			t.Errorf("%#x becomes %#x", e.text, l)
		}
		holds(t, e.text, types)
	}
}

// P14.1: none, unless there are as many types as codes.
func TestFindOther(t *testing.T) {
	text, types := []int{lam, alef, beh}, []int{api.JoinD, api.JoinR, api.JoinD, api.JoinD}
	for n := range 5 {
		for _, through := range []bool{false, true} {
			if l := lamalef.Find(text, types[:n], through); (len(l) == 1) != (n == 3) {
				t.Errorf("%d types: %v", n, l)
			}
		}
	}
	if l := lamalef.Find(nil, types, true); len(l) != 0 {
		t.Error(l)
	}
	if l := lamalef.Find(text, nil, true); len(l) != 0 {
		t.Error(l)
	}
}

// P14.1, P14.2: types that are not those of the codes hold as they are told, also what is none.
func TestOtherTypes(t *testing.T) {
	types := []int{api.JoinU, api.JoinT, api.JoinR, api.JoinD, api.JoinL, api.JoinC, 6, -1}
	codes := []int{lam, alef, madda, beh, 0x110627}
	for n := range 4 {
		each(n, types, func(types []int) {
			each(n, codes, func(text []int) { holds(t, text, types) })
		})
	}
	each(5, types[:4], func(types []int) { holds(t, []int{beh, lam, lam, alef, lam}, types) })
	each(5, types[:4], func(types []int) { holds(t, []int{lam, lam, lam, alef, alef}, types) })
}

// P14.1: lams that are passed over, as by their own types none is, wait for what the one ahead of them waits for: P14.3 speaks of types that codes have.
func TestLamPassedOver(t *testing.T) {
	text, types := []int{lam, lam, lam, alef}, []int{api.JoinD, api.JoinT, api.JoinT, api.JoinR}
	if l := lamalef.Find(text, types, true); !slices.Equal(l, []api.Pair{to(0, 3), to(1, 3), to(2, 3)}) {
		t.Error(l)
	}
	if l := lamalef.Find(text, types, false); !slices.Equal(l, []api.Pair{to(2, 3)}) {
		t.Error(l)
	}
	types[3] = api.JoinT
	if l := lamalef.Find(text, types, true); len(l) != 0 {
		t.Error(l)
	}
}

// P14.1 to P14.3: every text of up to six codes, with their types: no place is in two pairs, and every pair becomes one.
func TestEach(t *testing.T) {
	p := props.New()
	for n := range 7 {
		each(n, []int{lam, alef, beh, fatha, space}, func(text []int) {
			types := p.Joins(text)
			holds(t, text, types)
			l := lamalef.Find(text, types, true)
			seen := map[int]int{}
			for i, code := range lamalef.Codes(text, types, l) {
				seen[l[i].Open]++
				seen[l[i].Close]++
				if a, _, ok := forms.Parted(code); !ok || a != text[l[i].Close] {
					t.Fatalf("%#x: %v becomes %#x", text, l[i], code)
				}
			}
			if len(seen) != 2*len(l) {
				t.Fatalf("%#x: %v", text, l)
			}
		})
	}
}

// P14.2: pairs that lie outside, whose alef is none, that are turned round, or there twice; a lam is not asked for.
func TestCodes(t *testing.T) {
	text, types := []int{beh, lam, alef, reh, madda}, []int{api.JoinD, api.JoinD, api.JoinR, api.JoinR, api.JoinR}
	for _, e := range []struct {
		pair api.Pair
		want int
	}{
		{to(1, 2), 0xFEFC}, {to(0, 2), 0xFEFB}, {to(2, 2), 0xFEFC}, {to(3, 2), 0xFEFB}, {to(4, 2), 0xFEFB}, {to(1, 4), 0xFEF6}, {to(0, 4), 0xFEF5}, {to(3, 4), 0xFEF5},
		{to(1, 0), 0}, {to(1, 1), 0}, {to(1, 3), 0}, {to(2, 1), 0}, {to(5, 2), 0}, {to(1, 5), 0}, {to(-1, 2), 0}, {to(1, -1), 0}, {to(5, 5), 0}, {to(-1, -1), 0}, {api.Pair{}, 0},
	} {
		if got := lamalef.Codes(text, types, []api.Pair{e.pair}); !slices.Equal(got, []int{e.want}) {
			t.Errorf("%v: %#x", e.pair, got)
		}
	}
	for _, at := range far {
		if got := lamalef.Codes(text, types, []api.Pair{to(at, 2), to(1, at), to(at, at), to(1, 2)}); !slices.Equal(got, []int{0, 0, 0, 0xFEFC}) {
			t.Errorf("%d: %#x", at, got)
		}
	}
	if got := lamalef.Codes(text, types, []api.Pair{to(1, 2), to(9, 9), to(1, 2), to(0, 4), to(1, 2)}); !slices.Equal(got, []int{0xFEFC, 0, 0xFEFC, 0xFEF5, 0xFEFC}) {
		t.Errorf("%#x", got)
	}
	if len(lamalef.Codes(text, types, nil)) != 0 || len(lamalef.Codes(nil, nil, nil)) != 0 {
		t.Error("codes of no pairs")
	}
	if got := lamalef.Codes(nil, types, []api.Pair{to(0, 0), to(1, 2)}); !slices.Equal(got, []int{0, 0}) {
		t.Errorf("%#x", got)
	}
}

// P14.2: places of the text count, also where there are fewer types, or more: what has no type joins nothing.
func TestCodesOther(t *testing.T) {
	text, types := []int{beh, lam, alef}, []int{api.JoinD, api.JoinD, api.JoinR, api.JoinR, api.JoinD}
	for n, want := range []int{0xFEFB, 0xFEFB, 0xFEFC, 0xFEFC, 0xFEFC, 0xFEFC} {
		if got := lamalef.Codes(text, types[:n], []api.Pair{to(1, 2), to(3, 2), to(1, 3)}); !slices.Equal(got, []int{want, 0, 0}) {
			t.Errorf("%d types: %#x", n, got)
		}
	}
}

// Long texts end soon: marks between a lam and its alef, lams that are passed over, lams and alefs alone.
func TestLong(t *testing.T) {
	const n = 1 << 21
	text, types := slices.Repeat([]int{fatha}, n), slices.Repeat([]int{api.JoinT}, n)
	text[0], text[n-1], types[0], types[n-1] = lam, alef, api.JoinD, api.JoinR
	if l := lamalef.Find(text, types, true); !slices.Equal(l, []api.Pair{to(0, n-1)}) || !slices.Equal(lamalef.Codes(text, types, l), []int{0xFEFB}) {
		t.Error("apart")
	}
	for at := range n - 1 {
		text[at] = lam
	}
	if l := lamalef.Find(text, types, true); len(l) != n-1 || l[0] != to(0, n-1) || l[n-2] != to(n-2, n-1) {
		t.Error("passed over")
	}
	text[n-1] = beh
	if l := lamalef.Find(text, types, true); len(l) != 0 {
		t.Error("passed over, without an alef")
	}
	types[n-1] = api.JoinT
	if l := lamalef.Find(text, types, true); len(l) != 0 {
		t.Error("passed over, with nothing behind")
	}
	text, types = slices.Repeat([]int{lam, alef}, n/2), slices.Repeat([]int{api.JoinD, api.JoinR}, n/2)
	l := lamalef.Find(text, types, false)
	if codes := lamalef.Codes(text, types, l); len(l) != n/2 || slices.Min(codes) != 0xFEFB || slices.Max(codes) != 0xFEFB {
		t.Error("alone")
	}
}

// R3: what is handed in is not changed, its spare room included; what is told may be changed, and is told again.
func TestOwnMemory(t *testing.T) {
	text, types, l := []int{beh, lam, fatha, alef, lam, alef}, []int{api.JoinD, api.JoinD, api.JoinT, api.JoinR, api.JoinD, api.JoinR}, []api.Pair{to(1, 3), to(4, 5), to(0, 1)}
	text2, types2, l2 := slices.Clone(text), slices.Clone(types), slices.Clone(l)
	for range 2 {
		found := lamalef.Find(text[:4], types[:4], true)
		codes := lamalef.Codes(text[:4], types[:4], l[:2])
		if !slices.Equal(found, []api.Pair{to(1, 3)}) || !slices.Equal(codes, []int{0xFEFC, 0}) {
			t.Error(found, codes)
		}
		found, codes = found[:cap(found)], codes[:cap(codes)]
		for i := range found {
			found[i] = to(9, 9)
		}
		for i := range codes {
			codes[i] = 9
		}
		if !slices.Equal(text, text2) || !slices.Equal(types, types2) || !slices.Equal(l, l2) {
			t.Error("changed")
		}
	}
}
