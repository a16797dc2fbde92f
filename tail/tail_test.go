package tail_test

import (
	"math"
	"slices"
	"testing"

	"naskh/api"
	"naskh/tail"
)

// Codes in words.
const (
	seen  = 0x633
	sheen = 0x634
	sad   = 0x635
	dad   = 0x636
	yeh   = 0x626
	cut   = 0xFE73
	hamza = 0xFE80
)

// What a letter and its form become.
type (
	letter struct{ base, form int }
	two    struct{ a, b int }
)

// ofSeen are the letters of the family of seen at the end, by hand.
var ofSeen = map[letter]two{
	{seen, api.FormIsolated}: {0xFEB3, cut}, {seen, api.FormFinal}: {0xFEB4, cut}, {sheen, api.FormIsolated}: {0xFEB7, cut}, {sheen, api.FormFinal}: {0xFEB8, cut},
	{sad, api.FormIsolated}: {0xFEBB, cut}, {sad, api.FormFinal}: {0xFEBC, cut}, {dad, api.FormIsolated}: {0xFEBF, cut}, {dad, api.FormFinal}: {0xFEC0, cut},
}

// ofYeh are those of yeh with a hamza.
var ofYeh = map[letter]two{{yeh, api.FormIsolated}: {0xFEEF, hamza}, {yeh, api.FormFinal}: {0xFEF0, hamza}}

// noCodes are numbers beside those from 0 to MaxCode, what ends in the bits of letters and forms among them.
var noCodes = []int{
	-1, -seen, -yeh, -0xFEB3, -cut, math.MinInt, math.MinInt + seen, math.MinInt + 0xFEB3, 0x110000, 0x110633, 0x11FEB3, 0x11FE73, 0x11FE80, 0x11D800,
	1<<32 | seen, 1<<32 | yeh, 1<<32 | 0xFEB3, 1<<32 | cut, 1<<32 | hamza, math.MaxInt - cut, math.MaxInt,
}

// allForms are those of letters, and numbers beside them.
var allForms = []int{api.FormNone, api.FormIsolated, api.FormFinal, api.FormInitial, api.FormMedial, 5, 6, -1, -2, math.MinInt, math.MinInt + 1, math.MinInt + 2, 1<<32 | 1, 1<<32 | 2, math.MaxInt}

// eachCode calls f with every code, and with what is none.
func eachCode(f func(code int)) {
	for code := range api.MaxCode + 1 {
		f(code)
	}
	for _, code := range noCodes {
		f(code)
	}
}

// eachWay calls f with all that may be asked for.
func eachWay(f func(ofSeen, ofYeh bool)) {
	for way := range 4 {
		f(way&1 != 0, way&2 != 0)
	}
}

// ends tells what letters at the end become.
func ends(s, y bool) map[letter]two {
	m := map[letter]two{}
	if s {
		for l, is := range ofSeen {
			m[l] = is
		}
	}
	if y {
		for l, is := range ofYeh {
			m[l] = is
		}
	}
	return m
}

// backs tells which letter two codes are.
func backs(s, y bool) map[two]int {
	m := map[two]int{}
	for l, is := range ends(s, y) {
		m[is] = l.base
	}
	return m
}

// P16.1: Seen of each code, and of what is none.
func TestSeen(t *testing.T) {
	eachCode(func(code int) {
		if want := code == seen || code == sheen || code == sad || code == dad; tail.Seen(code) != want {
			t.Errorf("Seen(%#x): not %v", code, want)
		}
	})
}

// tells fails unless Tail answers what is wanted; nothing, if that is zero.
func tells(t *testing.T, base, form int, s, y bool, want two) {
	l, ok := tail.Tail(base, form, s, y)
	if known := want != (two{}); ok != known || known && !slices.Equal(l, []int{want.a, want.b}) || !known && len(l) != 0 {
		t.Helper() // not ahead of it: this is called for every code
		t.Errorf("Tail(%#x, %d, %v, %v): %#x, %v", base, form, s, y, l, ok)
	}
}

// P16.1: Tail, by hand: what is asked for and what is not, forms that have no tail, letters beside those that have.
func TestTail(t *testing.T) {
	tells(t, 0x633, api.FormIsolated, true, false, two{0xFEB3, 0xFE73})
	tells(t, 0x633, api.FormFinal, true, true, two{0xFEB4, 0xFE73})
	tells(t, 0x636, api.FormFinal, true, false, two{0xFEC0, 0xFE73})
	tells(t, 0x633, api.FormIsolated, false, true, two{})
	tells(t, 0x633, api.FormIsolated, false, false, two{})
	tells(t, 0x633, api.FormInitial, true, true, two{})
	tells(t, 0x633, api.FormMedial, true, true, two{})
	tells(t, 0x633, api.FormNone, true, true, two{})
	tells(t, 0x626, api.FormIsolated, false, true, two{0xFEEF, 0xFE80})
	tells(t, 0x626, api.FormFinal, true, true, two{0xFEF0, 0xFE80})
	tells(t, 0x626, api.FormIsolated, true, false, two{})
	tells(t, 0x626, api.FormInitial, true, true, two{})
	tells(t, 0x626, api.FormMedial, true, true, two{})
	tells(t, 0x626, api.FormNone, true, true, two{})
	for _, base := range []int{0x632, 0x637, 0x625, 0x627, 0x649, 0x64A, 0x6CC, 0x69A, 0xFEB1, 0xFE89, 0x20, 0, -1, 0x110633} {
		tells(t, base, api.FormIsolated, true, true, two{})
		tells(t, base, api.FormFinal, true, true, two{})
	}
}

// P16.1: Tail of every code in forms that a letter may end in; of those around the letters in every form.
func TestTailEach(t *testing.T) {
	eachWay(func(s, y bool) {
		m := ends(s, y)
		eachCode(func(code int) {
			for _, form := range []int{api.FormIsolated, api.FormFinal} {
				tells(t, code, form, s, y, m[letter{code, form}])
			}
		})
		for code := 0x600; code <= 0x6FF; code++ {
			for _, form := range allForms {
				tells(t, code, form, s, y, m[letter{code, form}])
			}
		}
		for _, code := range noCodes {
			for _, form := range allForms {
				tells(t, code, form, s, y, two{})
			}
		}
	})
}

// tellsBack fails unless Back answers what is wanted; nothing, if that is zero.
func tellsBack(t *testing.T, a, b int, s, y bool, want int) {
	if base, ok := tail.Back(a, b, s, y); base != want || ok != (want != 0) {
		t.Helper()
		t.Errorf("Back(%#x, %#x, %v, %v): %#x, %v", a, b, s, y, base, ok)
	}
}

// P16.2: Back, by hand: forms that have their tail, letters, codes in the other order.
func TestBack(t *testing.T) {
	tellsBack(t, 0xFEB3, 0xFE73, true, false, 0x633)
	tellsBack(t, 0xFEB4, 0xFE73, true, true, 0x633)
	tellsBack(t, 0xFEBF, 0xFE73, true, true, 0x636)
	tellsBack(t, 0xFEB3, 0xFE73, false, true, 0)
	tellsBack(t, 0xFEB3, 0xFE73, false, false, 0)
	tellsBack(t, 0xFEEF, 0xFE80, false, true, 0x626)
	tellsBack(t, 0xFEF0, 0xFE80, true, true, 0x626)
	tellsBack(t, 0xFEEF, 0xFE80, true, false, 0)
	tellsBack(t, 0xFEEF, 0xFE80, false, false, 0)
	for _, a := range []int{0xFEB1, 0xFEB2, 0xFEBD, 0xFEBE, 0xFE91, 0xFEC3, 0xFEB0, 0x633, 0x636, 0xFEEF, 0xFEF0, 0xFE73, 0xFE80, 0, -1, 0x11FEB3} {
		tellsBack(t, a, 0xFE73, true, true, 0)
		tellsBack(t, 0xFE73, a, true, true, 0)
	}
	for _, a := range []int{0xFEEE, 0xFEF1, 0xFEF2, 0xFBE8, 0xFBE9, 0xFE89, 0xFE8A, 0xFE8B, 0x626, 0x649, 0x64A, 0xFEB3, 0xFEB4, 0xFE80, 0, -1, 0x11FEEF} {
		tellsBack(t, a, 0xFE80, true, true, 0)
		tellsBack(t, 0xFE80, a, true, true, 0)
	}
	for _, b := range []int{0x621, 0xFE72, 0xFE74, 0xFE81, 0xFE7F, 0x20, 0, -1, 0x11FE73, 0x11FE80} {
		tellsBack(t, 0xFEB3, b, true, true, 0)
		tellsBack(t, 0xFEEF, b, true, true, 0)
	}
}

// P16.2: Back of every code ahead of both tails and of one that is none, and of every code behind forms that have tails.
func TestBackEach(t *testing.T) {
	aheads := []int{0xFEB3, 0xFEB4, 0xFEC0, 0xFEEF, 0xFEF0, 0xFEB1}
	eachWay(func(s, y bool) {
		m := backs(s, y)
		eachCode(func(code int) {
			for _, b := range []int{cut, hamza, 0x621} {
				tellsBack(t, code, b, s, y, m[two{code, b}])
			}
			for _, a := range aheads {
				tellsBack(t, a, code, s, y, m[two{a, code}])
			}
		})
		for a := 0xFE70; a <= 0xFEFF; a++ {
			for b := 0xFE70; b <= 0xFEFF; b++ {
				tellsBack(t, a, b, s, y, m[two{a, b}])
			}
		}
	})
}

// P16.3: Back of what Tail says is the letter, when the same is asked for.
func TestThereAndBack(t *testing.T) {
	told := 0
	eachWay(func(s, y bool) {
		eachCode(func(code int) {
			for _, form := range []int{api.FormIsolated, api.FormFinal} {
				l, ok := tail.Tail(code, form, s, y)
				if !ok {
					continue
				}
				told++
				if base, ok := tail.Back(l[0], l[1], s, y); !ok || base != code {
					t.Errorf("Back of Tail(%#x, %d, %v, %v): %#x, %v", code, form, s, y, base, ok)
				}
			}
		})
	})
	if want := 2*len(ofSeen) + 2*len(ofYeh); told != want {
		t.Errorf("%d tails, not %d", told, want)
	}
}

// R3: what is told may be changed, and is told again.
func TestOwnMemory(t *testing.T) {
	for range 2 {
		for at, want := range ends(true, true) {
			tells(t, at.base, at.form, true, true, want)
			l, _ := tail.Tail(at.base, at.form, true, true)
			l = l[:cap(l)]
			for i := range l {
				l[i] = 9
			}
		}
	}
}
