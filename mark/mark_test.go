package mark_test

import (
	"math"
	"slices"
	"testing"

	"naskh/api"
	"naskh/join"
	"naskh/mark"
	"naskh/props"
)

// Codes in words.
const (
	beh      = 0x628
	reh      = 0x631
	tatweel  = 0x640
	fathatan = 0x64B
	dammatan = 0x64C
	kasratan = 0x64D
	fatha    = 0x64E
	damma    = 0x64F
	kasra    = 0x650
	shadda   = 0x651
	sukun    = 0x652
	small    = 0x670
	joiner   = 0x200D
	space    = 0x20
)

// A seen tells what one mark becomes in the modes that have a code of its own for it, and what it becomes behind a shadda; 0 where there is none.
type seen struct{ isolated, medial, piled int }

// marks are those of tashkeel, by hand.
var marks = map[int]seen{
	fathatan: {0xFE70, 0xFE71, 0}, dammatan: {0xFE72, 0, 0xFC5E}, kasratan: {0xFE74, 0, 0xFC5F}, fatha: {0xFE76, 0xFE77, 0xFC60}, damma: {0xFE78, 0xFE79, 0xFC61},
	kasra: {0xFE7A, 0xFE7B, 0xFC62}, shadda: {0xFE7C, 0xFE7D, 0}, sukun: {0xFE7E, 0xFE7F, 0}, small: {0, 0, 0xFC63},
}

// noCodes are numbers beside those from 0 to MaxCode, what ends in the bits of marks among them.
var noCodes = []int{-1, -2, -fatha, math.MinInt, math.MinInt + fatha, 0x110000, 0x11064E, 0x110651, 0x11D800, 1<<32 | fatha, 1<<32 | shadda, 1<<32 | small, math.MaxInt - fatha, math.MaxInt}

// modes are those that are known.
var modes = []int{api.MarkKeep, api.MarkIsolated, api.MarkMedial, api.MarkRemove, api.MarkTatweel}

// noModes are numbers beside those of modes.
var noModes = []int{-1, 5, 6, -4, math.MinInt, math.MinInt + 3, 1<<32 | api.MarkRemove, 1 << 32, math.MaxInt}

// eachCode calls f with every code, and with what is none.
func eachCode(f func(code int)) {
	for code := range api.MaxCode + 1 {
		f(code)
	}
	for _, code := range noCodes {
		f(code)
	}
}

// each calls f with every text of n of these codes.
func each(n int, codes []int, f func(text []int)) {
	all := 1
	for range n {
		all *= len(codes)
	}
	for which := range all {
		text := make([]int, n)
		for at := range text {
			text[at] = codes[which%len(codes)]
			which /= len(codes)
		}
		f(text)
	}
}

// piles tells where two codes that stand together are a shadda and a mark that become one.
func piles(text []int) []int {
	var places []int
	for at := range text {
		if at > 0 && text[at-1] == shadda && marks[text[at]].piled != 0 {
			places = append(places, at-1)
		}
	}
	return places
}

// became tells what One is to answer, by tables.
func became(code, mode int, over bool) []int {
	s, is := marks[code]
	if !is {
		return []int{code}
	}
	var l []int
	switch mode {
	case api.MarkIsolated:
		l = []int{s.isolated}
	case api.MarkMedial:
		l = []int{s.medial, s.isolated}
		if !over {
			l = l[1:]
		}
	case api.MarkRemove:
		return nil
	case api.MarkTatweel:
		if over {
			return []int{tatweel}
		}
		return nil
	}
	for _, c := range append(l, code) {
		if c != 0 {
			return []int{c}
		}
	}
	return nil
}

// becameAll tells what All is to answer of texts with as many types as codes.
func becameAll(text, types []int, mode int, pile bool) [][]int {
	l := make([][]int, len(text))
	for at, code := range text {
		l[at] = became(code, mode, join.Over(types, at))
		if !pile || !slices.Contains(modes[:3], mode) {
			continue
		}
		if at+1 < len(text) && code == shadda && marks[text[at+1]].piled != 0 {
			l[at] = []int{marks[text[at+1]].piled}
		}
		if at > 0 && text[at-1] == shadda && marks[code].piled != 0 {
			l[at] = nil
		}
	}
	return l
}

// same says whether the lists of two answers are the same ones.
func same(a, b [][]int) bool { return slices.EqualFunc(a, b, slices.Equal[[]int]) }

// holds fails unless Piles and All answer what the promises say, in every mode.
func holds(t *testing.T, text, types []int) {
	t.Helper()
	if got, want := mark.Piles(text), piles(text); !slices.Equal(got, want) {
		t.Fatalf("Piles(%#x): %d, not %d", text, got, want)
	}
	for _, mode := range append(modes, -1, 5) {
		for _, pile := range []bool{false, true} {
			if got, want := mark.All(text, types, mode, pile), becameAll(text, types, mode, pile); !same(got, want) {
				t.Fatalf("All(%#x, %d, %d, %v): %#x, not %#x", text, types, mode, pile, got, want)
			}
		}
	}
}

// P15.1: Tashkeel of each code, and of what is none.
func TestTashkeel(t *testing.T) {
	eachCode(func(code int) {
		if _, want := marks[code]; mark.Tashkeel(code) != want {
			t.Errorf("Tashkeel(%#x): not %v", code, want)
		}
	})
	for code, want := range map[int]bool{0x64A: false, 0x64B: true, 0x651: true, 0x652: true, 0x653: false, 0x66F: false, 0x670: true, 0x671: false, 0xFE76: false, 0x640: false} {
		if mark.Tashkeel(code) != want {
			t.Errorf("Tashkeel(%#x): not %v", code, want)
		}
	}
}

// P15.1: Piles, by hand: a shadda without a mark, with one that it has no pile with, at the end, behind the mark, apart from it.
func TestPiles(t *testing.T) {
	for _, e := range []struct{ text, want []int }{
		{nil, nil}, {[]int{}, nil}, {[]int{shadda}, nil}, {[]int{fatha}, nil}, {[]int{shadda, fatha}, []int{0}}, {[]int{fatha, shadda}, nil}, {[]int{beh, shadda, small}, []int{1}},
		{[]int{shadda, shadda, fatha}, []int{1}}, {[]int{shadda, fatha, fatha}, []int{0}}, {[]int{shadda, fatha, shadda, kasra, shadda}, []int{0, 2}},
		{[]int{shadda, sukun, fatha}, nil}, {[]int{shadda, fathatan}, nil}, {[]int{shadda, beh, fatha}, nil}, {[]int{shadda, tatweel, fatha}, nil}, {[]int{shadda, shadda}, nil},
		{[]int{shadda, dammatan, shadda, kasratan, beh, shadda, damma}, []int{0, 2, 5}}, {[]int{0xFE7C, fatha}, nil}, {[]int{shadda, 0xFE76}, nil}, {[]int{shadda, 0x653}, nil},
		{[]int{-shadda, fatha}, nil}, {[]int{shadda, -fatha}, nil}, {[]int{0x110651, fatha}, nil}, {[]int{shadda, 0x11064E}, nil},
	} {
		if l := mark.Piles(e.text); !slices.Equal(l, e.want) {
			t.Errorf("Piles(%#x): %d", e.text, l)
		}
	}
	eachCode(func(code int) {
		if l := mark.Piles([]int{shadda, code}); (len(l) == 1) != (marks[code].piled != 0) {
			t.Errorf("a shadda and %#x: %d", code, l)
		}
		if l := mark.Piles([]int{code, fatha}); (len(l) == 1) != (code == shadda) {
			t.Errorf("%#x and a fatha: %d", code, l)
		}
	})
}

// P15.2: One, by hand, of marks that have a medial accent, an isolated one alone, and none.
func TestOne(t *testing.T) {
	for _, e := range []struct {
		code, mode        int
		apart, over, none int
	}{
		{fatha, api.MarkKeep, fatha, fatha, 0}, {fatha, api.MarkIsolated, 0xFE76, 0xFE76, 0}, {fatha, api.MarkMedial, 0xFE76, 0xFE77, 0},
		{dammatan, api.MarkKeep, dammatan, dammatan, 0}, {dammatan, api.MarkIsolated, 0xFE72, 0xFE72, 0}, {dammatan, api.MarkMedial, 0xFE72, 0xFE72, 0},
		{shadda, api.MarkKeep, shadda, shadda, 0}, {shadda, api.MarkIsolated, 0xFE7C, 0xFE7C, 0}, {shadda, api.MarkMedial, 0xFE7C, 0xFE7D, 0},
		{small, api.MarkKeep, small, small, 0}, {small, api.MarkIsolated, small, small, 0}, {small, api.MarkMedial, small, small, 0},
		{fatha, api.MarkRemove, 0, 0, 2}, {dammatan, api.MarkRemove, 0, 0, 2}, {small, api.MarkRemove, 0, 0, 2},
		{fatha, api.MarkTatweel, 0, tatweel, 1}, {dammatan, api.MarkTatweel, 0, tatweel, 1}, {small, api.MarkTatweel, 0, tatweel, 1},
		{fatha, -1, fatha, fatha, 0}, {fatha, 5, fatha, fatha, 0}, {small, 5, small, small, 0},
		{beh, api.MarkRemove, beh, beh, 0}, {tatweel, api.MarkTatweel, tatweel, tatweel, 0}, {0x653, api.MarkRemove, 0x653, 0x653, 0}, {0xFE76, api.MarkMedial, 0xFE76, 0xFE76, 0},
	} {
		wants := [][]int{{e.apart}, {e.over}}
		for i := range e.none {
			wants[i] = nil
		}
		for i, over := range []bool{false, true} {
			if l := mark.One(e.code, e.mode, over); !slices.Equal(l, wants[i]) {
				t.Errorf("One(%#x, %d, %v): %#x", e.code, e.mode, over, l)
			}
		}
	}
}

// P15.2: One of every code, and of what is none, in every mode.
func TestOneEach(t *testing.T) {
	eachCode(func(code int) {
		for _, mode := range append(modes, noModes[:3]...) {
			for _, over := range []bool{false, true} {
				if l, want := mark.One(code, mode, over), became(code, mode, over); !slices.Equal(l, want) {
					t.Errorf("One(%#x, %d, %v): %#x, not %#x", code, mode, over, l, want)
				}
			}
		}
	})
}

// P15.2: of an unknown mode the code alone, whatever it is, and no pile.
func TestUnknownMode(t *testing.T) {
	text, types := []int{beh, shadda, fatha, beh}, []int{api.JoinD, api.JoinT, api.JoinT, api.JoinD}
	for _, mode := range noModes {
		for code := range marks {
			for _, over := range []bool{false, true} {
				if l := mark.One(code, mode, over); !slices.Equal(l, []int{code}) {
					t.Errorf("One(%#x, %d, %v): %#x", code, mode, over, l)
				}
			}
		}
		for _, pile := range []bool{false, true} {
			if l := mark.All(text, types, mode, pile); !same(l, [][]int{{beh}, {shadda}, {fatha}, {beh}}) {
				t.Errorf("%d: %#x", mode, l)
			}
		}
	}
}

// P15.2: texts by hand, with the types that their codes have.
func TestAll(t *testing.T) {
	p := props.New()
	for _, e := range []struct {
		text []int
		mode int
		pile bool
		want [][]int
	}{
		{nil, api.MarkKeep, true, nil}, {[]int{shadda, fatha}, api.MarkKeep, true, [][]int{{0xFC60}, nil}}, {[]int{shadda, fatha}, api.MarkKeep, false, [][]int{{shadda}, {fatha}}},
		{[]int{shadda, fatha}, api.MarkIsolated, true, [][]int{{0xFC60}, nil}}, {[]int{shadda, fatha}, api.MarkIsolated, false, [][]int{{0xFE7C}, {0xFE76}}},
		{[]int{beh, shadda, fatha, beh}, api.MarkMedial, true, [][]int{{beh}, {0xFC60}, nil, {beh}}}, {[]int{beh, shadda, fatha, beh}, api.MarkMedial, false, [][]int{{beh}, {0xFE7D}, {0xFE77}, {beh}}},
		{[]int{beh, shadda, fatha, beh}, api.MarkRemove, true, [][]int{{beh}, nil, nil, {beh}}}, {[]int{beh, shadda, fatha, beh}, api.MarkTatweel, true, [][]int{{beh}, {tatweel}, {tatweel}, {beh}}},
		{[]int{reh, shadda, fatha, beh}, api.MarkTatweel, true, [][]int{{reh}, nil, nil, {beh}}}, {[]int{reh, shadda, fatha, beh}, api.MarkMedial, false, [][]int{{reh}, {0xFE7C}, {0xFE76}, {beh}}},
		{[]int{beh, fatha, reh, fatha}, api.MarkMedial, true, [][]int{{beh}, {0xFE77}, {reh}, {0xFE76}}}, {[]int{beh, fatha}, api.MarkMedial, true, [][]int{{beh}, {0xFE76}}},
		{[]int{fatha, beh, fatha, space, fatha, beh}, api.MarkTatweel, false, [][]int{nil, {beh}, nil, {space}, nil, {beh}}}, {[]int{beh, fatha, joiner}, api.MarkTatweel, false, [][]int{{beh}, {tatweel}, {joiner}}},
		{[]int{tatweel, fatha, tatweel}, api.MarkMedial, false, [][]int{{tatweel}, {0xFE77}, {tatweel}}}, {[]int{beh, shadda, sukun, beh}, api.MarkMedial, true, [][]int{{beh}, {0xFE7D}, {0xFE7F}, {beh}}},
		{[]int{beh, shadda, shadda, small, beh}, api.MarkMedial, true, [][]int{{beh}, {0xFE7D}, {0xFC63}, nil, {beh}}}, {[]int{beh, 0x653, fatha, beh}, api.MarkRemove, true, [][]int{{beh}, {0x653}, nil, {beh}}},
		{[]int{beh, shadda, dammatan, beh, dammatan, beh}, api.MarkMedial, true, [][]int{{beh}, {0xFC5E}, nil, {beh}, {0xFE72}, {beh}}},
		{[]int{-1, 0x11064E, 0x110000}, api.MarkRemove, true, [][]int{{-1}, {0x11064E}, {0x110000}}}, {[]int{beh, fatha, -1}, api.MarkTatweel, true, [][]int{{beh}, nil, {-1}}},
	} {
		types := p.Joins(e.text)
		if l := mark.All(e.text, types, e.mode, e.pile); !same(l, e.want) {
			t.Errorf("All(%#x, %d, %v): %#x", e.text, e.mode, e.pile, l)
		}
		holds(t, e.text, types)
	}
}

// P15.2: none, unless there are as many types as codes.
func TestAllOther(t *testing.T) {
	text, types := []int{beh, fatha, beh}, []int{api.JoinD, api.JoinT, api.JoinD, api.JoinD}
	for _, mode := range append(modes, noModes...) {
		for n := range 5 {
			for _, pile := range []bool{false, true} {
				if l := mark.All(text, types[:n], mode, pile); len(l) != 0 != (n == 3) {
					t.Errorf("%d types: %#x", n, l)
				}
			}
		}
		if l := mark.All(nil, types, mode, true); len(l) != 0 {
			t.Error(l)
		}
		if l := mark.All(text, nil, mode, true); len(l) != 0 {
			t.Error(l)
		}
		if l := mark.All(nil, nil, mode, true); len(l) != 0 {
			t.Error(l)
		}
	}
}

// P15.2, P15.3: every text of up to six codes, with their types, in every mode; a list for each code.
func TestEach(t *testing.T) {
	p := props.New()
	for n := range 7 {
		each(n, []int{beh, reh, fatha, shadda, space}, func(text []int) { holds(t, text, p.Joins(text)) })
	}
	each(4, []int{beh, shadda, dammatan, small, sukun, 0x653, tatweel, -1}, func(text []int) {
		holds(t, text, p.Joins(text))
		for _, mode := range append(modes, noModes...) {
			if l := mark.All(text, p.Joins(text), mode, true); len(l) != len(text) {
				t.Fatalf("All(%#x, %d): %#x", text, mode, l)
			}
		}
	})
}

// P15.2: types that are not those of the codes hold as they are told, also what is none: a mark that is not passed over is over nothing.
func TestOtherTypes(t *testing.T) {
	types := []int{api.JoinU, api.JoinT, api.JoinR, api.JoinD, api.JoinL, api.JoinC, 6, -1}
	for n := range 4 {
		each(n, types, func(types []int) {
			each(n, []int{beh, fatha, dammatan, shadda}, func(text []int) { holds(t, text, types) })
		})
	}
	each(6, types[1:4], func(types []int) { holds(t, []int{fatha, beh, shadda, damma, fatha, beh}, types) })
	each(6, types[1:4], func(types []int) { holds(t, slices.Repeat([]int{fatha}, 6), types) })
}

// Long texts end soon: marks between two that join, marks alone, piles, letters.
func TestLong(t *testing.T) {
	const n = 1 << 20
	text, types := slices.Repeat([]int{fatha}, n), slices.Repeat([]int{api.JoinT}, n)
	if l := mark.All(text, types, api.MarkTatweel, true); len(l) != n || len(l[0]) != 0 || len(l[n-1]) != 0 {
		t.Error("alone")
	}
	text[0], text[n-1], types[0], types[n-1] = beh, beh, api.JoinD, api.JoinD
	l := mark.All(text, types, api.MarkMedial, true)
	if len(l) != n || !slices.Equal(l[1], []int{0xFE77}) || !slices.Equal(l[n-2], []int{0xFE77}) || !slices.Equal(l[n-1], []int{beh}) {
		t.Error("between")
	}
	text, types = slices.Repeat([]int{shadda, kasra}, n/2), slices.Repeat([]int{api.JoinT}, n)
	if places := mark.Piles(text); len(places) != n/2 || places[n/2-1] != n-2 {
		t.Error("Piles")
	}
	if l := mark.All(text, types, api.MarkKeep, true); len(l) != n || !slices.Equal(l[n-2], []int{0xFC62}) || len(l[n-1]) != 0 {
		t.Error("piled")
	}
	text, types = slices.Repeat([]int{beh, fatha}, n/2), slices.Repeat([]int{api.JoinD, api.JoinT}, n/2)
	if l := mark.All(text, types, api.MarkTatweel, true); len(l) != n || !slices.Equal(l[n-3], []int{tatweel}) || len(l[n-1]) != 0 {
		t.Error("letters")
	}
}

// scrub changes all that a list has, its spare room included.
func scrub(l []int) {
	for i := range l[:cap(l)] {
		l[:cap(l)][i] = 9
	}
}

// R3: what is handed in is not changed, its spare room included; what is told may be changed, and is told again, each list on its own.
func TestOwnMemory(t *testing.T) {
	text, types := []int{beh, shadda, fatha, sukun, beh, shadda, kasra, space}, []int{api.JoinD, api.JoinT, api.JoinT, api.JoinT, api.JoinD, api.JoinT, api.JoinT, api.JoinU}
	text2, types2 := slices.Clone(text), slices.Clone(types)
	for range 2 {
		places := mark.Piles(text[:6])
		if !slices.Equal(places, []int{1}) {
			t.Error(places)
		}
		scrub(places)
		for _, mode := range modes {
			for _, pile := range []bool{false, true} {
				l, want := mark.All(text[:6], types[:6], mode, pile), becameAll(text[:6], types[:6], mode, pile)
				for at := range l {
					if !slices.Equal(l[at], want[at]) {
						t.Errorf("%d, %v: %#x at %d", mode, pile, l[at], at)
					}
					scrub(l[at])
				}
				for at := range l[:cap(l)] {
					l[:cap(l)][at] = []int{9}
				}
			}
			for code := range marks {
				one := mark.One(code, mode, true)
				if !slices.Equal(one, became(code, mode, true)) {
					t.Errorf("One(%#x, %d): %#x", code, mode, one)
				}
				scrub(one)
			}
		}
		if !slices.Equal(text, text2) || !slices.Equal(types, types2) {
			t.Error("changed")
		}
	}
}
