package forms_test

import (
	"math"
	"testing"

	"naskh/api"
	"naskh/forms"
)

const tail = 0xFE73

// noCodes are numbers beside those from 0 to MaxCode, ill units and what ends in the bits of letters and forms among them.
var noCodes = []int{
	-1, -2, -0x628, -0xFE91, math.MinInt, math.MinInt + 0x628, math.MinInt + 0xFE91, 0x110000, 0x110628, 0x11D800, 0x11FE91, 0x11FEFB,
	1 << 31, 1<<32 | 0x628, 1<<32 | 0xFE91, 1<<32 | 0xFEFB, 1<<32 | 0xFE70, 1<<32 | 0xFC60, math.MaxInt - 0xFE91, math.MaxInt,
}

// noForms are numbers beside those of forms.
var noForms = []int{0, 5, 6, -1, -2, math.MinInt, math.MinInt + 1, math.MinInt + 2, 1<<32 | 1, math.MaxInt}

// eachCode calls f with every code, and with what is none.
func eachCode(f func(code int)) {
	for code := range api.MaxCode + 1 {
		f(code)
	}
	for _, code := range noCodes {
		f(code)
	}
}

// eachForm calls f with every form, and with what is none.
func eachForm(f func(form int)) {
	for form := api.FormIsolated; form <= api.FormMedial; form++ {
		f(form)
	}
	for _, form := range noForms {
		f(form)
	}
}

// A shape is a letter, an alef or a mark, and which of its forms; of none it is zero.
type shape struct{ of, form int }

// letters tells the code of each form of each letter.
func letters() map[shape]int {
	m := map[shape]int{}
	for _, l := range api.Letters() {
		for i, code := range l.Forms {
			if code != 0 {
				m[shape{l.Base, i + 1}] = code
			}
		}
	}
	return m
}

// ligatures tells the code of each form of lam and each alef.
func ligatures() map[shape]int {
	m := map[shape]int{}
	for _, l := range api.Ligatures() {
		m[shape{l.Alef, api.FormIsolated}], m[shape{l.Alef, api.FormFinal}] = l.Isolated, l.Final
	}
	return m
}

// accents tells the code of each form of each mark: on its own FormIsolated, with a tatweel FormMedial.
func accents() map[shape]int {
	m := map[shape]int{}
	for _, a := range api.Accents() {
		m[shape{a.Mark, api.FormIsolated}] = a.Isolated
		if a.Medial != 0 {
			m[shape{a.Mark, api.FormMedial}] = a.Medial
		}
	}
	return m
}

// piles tells the code of each mark with shadda.
func piles() map[int]int {
	m := map[int]int{}
	for _, p := range api.Piles() {
		m[p.Mark] = p.Code
	}
	return m
}

// back turns a map round; no code may be there twice.
func back[K comparable](t *testing.T, m map[K]int) map[int]K {
	t.Helper()
	b := map[int]K{}
	for k, code := range m {
		if was, ok := b[code]; ok {
			t.Errorf("%#x is of %v and of %v", code, was, k)
		}
		b[code] = k
	}
	return b
}

// P9.1: Form, by hand: letters of four forms, of two, of one; forms that are none; what is no letter.
func TestForm(t *testing.T) {
	for s, want := range map[shape]int{
		{0x628, api.FormIsolated}: 0xFE8F, {0x628, api.FormFinal}: 0xFE90, {0x628, api.FormInitial}: 0xFE91, {0x628, api.FormMedial}: 0xFE92,
		{0x627, api.FormIsolated}: 0xFE8D, {0x627, api.FormFinal}: 0xFE8E, {0x627, api.FormInitial}: 0, {0x627, api.FormMedial}: 0,
		{0x621, api.FormIsolated}: 0xFE80, {0x621, api.FormFinal}: 0, {0x677, api.FormIsolated}: 0xFBDD, {0x677, api.FormFinal}: 0,
		{0x649, api.FormFinal}: 0xFEF0, {0x649, api.FormInitial}: 0xFBE8, {0x649, api.FormMedial}: 0xFBE9, {0x64A, api.FormMedial}: 0xFEF4,
		{0x671, api.FormIsolated}: 0xFB50, {0x6CC, api.FormMedial}: 0xFBFF, {0x6D3, api.FormFinal}: 0xFBB1, {0x6D3, api.FormInitial}: 0,
		{0x628, 0}: 0, {0x628, 5}: 0, {0x628, -1}: 0, {0x628, math.MinInt}: 0, {0x628, math.MaxInt}: 0,
		{0, api.FormFinal}: 0, {0x61, 1}: 0, {0x620, 1}: 0, {0x640, 1}: 0, {0x64B, 1}: 0, {0x66E, 1}: 0, {0x6D4, 1}: 0, {0xFE8F, 1}: 0, {0xFEFB, 1}: 0,
		{0x10FFFF, 1}: 0, {0x110628, 1}: 0, {-1, 1}: 0, {-0x628, 1}: 0,
	} {
		if code, ok := forms.Form(s.of, s.form); code != want || ok != (want != 0) {
			t.Errorf("Form(%#x, %d): %#x, %v", s.of, s.form, code, ok)
		}
	}
}

// P9.1: every form of every code, against api's letters.
func TestFormEach(t *testing.T) {
	m := letters()
	eachCode(func(base int) {
		eachForm(func(form int) {
			want, known := m[shape{base, form}]
			if code, ok := forms.Form(base, form); code != want || ok != known {
				t.Errorf("Form(%#x, %d): %#x, %v", base, form, code, ok)
			}
		})
	})
}

// P9.1: Base, by hand; 0, which stands in api's letters for no form, is none.
func TestBase(t *testing.T) {
	for code, want := range map[int]shape{
		0xFE8F: {0x628, api.FormIsolated}, 0xFE90: {0x628, api.FormFinal}, 0xFE91: {0x628, api.FormInitial}, 0xFE92: {0x628, api.FormMedial},
		0xFE80: {0x621, api.FormIsolated}, 0xFE8E: {0x627, api.FormFinal}, 0xFBDD: {0x677, api.FormIsolated}, 0xFEB3: {0x633, api.FormInitial},
		0xFB50: {0x671, api.FormIsolated}, 0xFBE9: {0x649, api.FormMedial}, 0xFBFF: {0x6CC, api.FormMedial}, 0xFEF4: {0x64A, api.FormMedial},
		0: {}, 0x61: {}, 0x627: {}, 0x628: {}, 0x640: {}, 0xFB4F: {}, 0xFBB2: {}, 0xFBEA: {}, 0xFC00: {}, 0xFC60: {}, 0xFE70: {}, 0xFE73: {}, 0xFE7F: {},
		0xFEF5: {}, 0xFEFB: {}, 0xFEFD: {}, 0xFEFF: {}, 0xFF00: {}, 0x10FFFF: {}, 0x11FE91: {}, -1: {}, -0xFE91: {},
	} {
		if base, form, ok := forms.Base(code); (shape{base, form}) != want || ok != (want != shape{}) {
			t.Errorf("Base(%#x): %#x, %d, %v", code, base, form, ok)
		}
	}
}

// P9.1: Base of every code, against api's letters.
func TestBaseEach(t *testing.T) {
	m := back(t, letters())
	eachCode(func(code int) {
		want, known := m[code]
		if base, form, ok := forms.Base(code); (shape{base, form}) != want || ok != known {
			t.Errorf("Base(%#x): %#x, %d, %v", code, base, form, ok)
		}
	})
}

// P9.2: Ligate, by hand: two forms of four alefs, and nothing else.
func TestLigate(t *testing.T) {
	for s, want := range map[shape]int{
		{0x622, api.FormIsolated}: 0xFEF5, {0x622, api.FormFinal}: 0xFEF6, {0x623, api.FormIsolated}: 0xFEF7, {0x623, api.FormFinal}: 0xFEF8,
		{0x625, api.FormIsolated}: 0xFEF9, {0x625, api.FormFinal}: 0xFEFA, {0x627, api.FormIsolated}: 0xFEFB, {0x627, api.FormFinal}: 0xFEFC,
		{0x627, api.FormNone}: 0, {0x627, api.FormInitial}: 0, {0x627, api.FormMedial}: 0, {0x627, 5}: 0, {0x627, -1}: 0, {0x627, math.MinInt}: 0,
		{0x621, 1}: 0, {0x624, 1}: 0, {0x626, 1}: 0, {0x644, 1}: 0, {0x671, 1}: 0, {0, 1}: 0, {0xFEFB, 1}: 0, {0x110627, 1}: 0, {-0x627, 1}: 0,
	} {
		if code, ok := forms.Ligate(s.of, s.form); code != want || ok != (want != 0) {
			t.Errorf("Ligate(%#x, %d): %#x, %v", s.of, s.form, code, ok)
		}
	}
}

// P9.2: Ligate and Parted of every code, against api's ligatures.
func TestLigaturesEach(t *testing.T) {
	m := ligatures()
	b := back(t, m)
	eachCode(func(code int) {
		eachForm(func(form int) {
			want, known := m[shape{code, form}]
			if got, ok := forms.Ligate(code, form); got != want || ok != known {
				t.Errorf("Ligate(%#x, %d): %#x, %v", code, form, got, ok)
			}
		})
		want, known := b[code]
		if alef, form, ok := forms.Parted(code); (shape{alef, form}) != want || ok != known {
			t.Errorf("Parted(%#x): %#x, %d, %v", code, alef, form, ok)
		}
	})
}

// P9.2: Parted, by hand.
func TestParted(t *testing.T) {
	for code, want := range map[int]shape{
		0xFEF5: {0x622, api.FormIsolated}, 0xFEF6: {0x622, api.FormFinal}, 0xFEF7: {0x623, api.FormIsolated}, 0xFEF8: {0x623, api.FormFinal},
		0xFEF9: {0x625, api.FormIsolated}, 0xFEFA: {0x625, api.FormFinal}, 0xFEFB: {0x627, api.FormIsolated}, 0xFEFC: {0x627, api.FormFinal},
		0: {}, 0x627: {}, 0x644: {}, 0xFE8D: {}, 0xFEF4: {}, 0xFEFD: {}, 0x11FEFB: {}, -0xFEFB: {},
	} {
		if alef, form, ok := forms.Parted(code); (shape{alef, form}) != want || ok != (want != shape{}) {
			t.Errorf("Parted(%#x): %#x, %d, %v", code, alef, form, ok)
		}
	}
}

// P9.2: Accent, by hand: two marks have no medial one; the mark over a letter has none.
func TestAccent(t *testing.T) {
	for mark, want := range map[int][2]int{
		0x64B: {0xFE70, 0xFE71}, 0x64C: {0xFE72, 0}, 0x64D: {0xFE74, 0}, 0x64E: {0xFE76, 0xFE77}, 0x64F: {0xFE78, 0xFE79},
		0x650: {0xFE7A, 0xFE7B}, 0x651: {0xFE7C, 0xFE7D}, 0x652: {0xFE7E, 0xFE7F},
		0x64A: {}, 0x653: {}, 0x670: {}, 0x627: {}, 0: {}, 0xFE76: {}, 0xFE73: {}, 0x11064E: {}, -0x64E: {},
	} {
		for i, medial := range []bool{false, true} {
			if code, ok := forms.Accent(mark, medial); code != want[i] || ok != (want[i] != 0) {
				t.Errorf("Accent(%#x, %v): %#x, %v", mark, medial, code, ok)
			}
		}
	}
}

// P9.2: Mark, by hand; 0, which stands in api's accents for no medial one, is none, and neither is a tail.
func TestMark(t *testing.T) {
	for code, want := range map[int]shape{
		0xFE70: {0x64B, api.FormIsolated}, 0xFE71: {0x64B, api.FormMedial}, 0xFE72: {0x64C, api.FormIsolated}, 0xFE74: {0x64D, api.FormIsolated},
		0xFE76: {0x64E, api.FormIsolated}, 0xFE77: {0x64E, api.FormMedial}, 0xFE7C: {0x651, api.FormIsolated}, 0xFE7D: {0x651, api.FormMedial},
		0xFE7E: {0x652, api.FormIsolated}, 0xFE7F: {0x652, api.FormMedial},
		0: {}, 0x64E: {}, 0x651: {}, 0xFC60: {}, 0xFE6F: {}, 0xFE73: {}, 0xFE75: {}, 0xFE80: {}, 0x11FE70: {}, -0xFE70: {},
	} {
		if mark, medial, ok := forms.Mark(code); mark != want.of || medial != (want.form == api.FormMedial) || ok != (want != shape{}) {
			t.Errorf("Mark(%#x): %#x, %v, %v", code, mark, medial, ok)
		}
	}
}

// P9.2: Accent and Mark of every code, against api's accents.
func TestAccentsEach(t *testing.T) {
	m := accents()
	b := back(t, m)
	eachCode(func(code int) {
		for form, medial := range map[int]bool{api.FormIsolated: false, api.FormMedial: true} {
			want, known := m[shape{code, form}]
			if got, ok := forms.Accent(code, medial); got != want || ok != known {
				t.Errorf("Accent(%#x, %v): %#x, %v", code, medial, got, ok)
			}
		}
		want, known := b[code]
		if mark, medial, ok := forms.Mark(code); mark != want.of || medial != (want.form == api.FormMedial) || ok != known {
			t.Errorf("Mark(%#x): %#x, %v, %v", code, mark, medial, ok)
		}
	})
}

// P9.2: Pile and Unpile, by hand.
func TestPile(t *testing.T) {
	for mark, code := range map[int]int{0x64C: 0xFC5E, 0x64D: 0xFC5F, 0x64E: 0xFC60, 0x64F: 0xFC61, 0x650: 0xFC62, 0x670: 0xFC63} {
		if got, ok := forms.Pile(mark); got != code || !ok {
			t.Errorf("Pile(%#x): %#x, %v", mark, got, ok)
		}
		if got, ok := forms.Unpile(code); got != mark || !ok {
			t.Errorf("Unpile(%#x): %#x, %v", code, got, ok)
		}
	}
	for _, code := range []int{0, 0x64B, 0x651, 0x652, 0x66F, 0x671, 0xFC5D, 0xFC64, 0xFE7C, 0x11064E, 0x11FC60, -0x64E, -0xFC60} {
		if got, ok := forms.Pile(code); got != 0 || ok {
			t.Errorf("Pile(%#x): %#x, %v", code, got, ok)
		}
		if got, ok := forms.Unpile(code); got != 0 || ok {
			t.Errorf("Unpile(%#x): %#x, %v", code, got, ok)
		}
	}
}

// P9.2: Pile and Unpile of every code, against api's piles.
func TestPilesEach(t *testing.T) {
	m := piles()
	b := back(t, m)
	eachCode(func(code int) {
		want, known := m[code]
		if got, ok := forms.Pile(code); got != want || ok != known {
			t.Errorf("Pile(%#x): %#x, %v", code, got, ok)
		}
		want, known = b[code]
		if got, ok := forms.Unpile(code); got != want || ok != known {
			t.Errorf("Unpile(%#x): %#x, %v", code, got, ok)
		}
	})
}

// P9.3: Presented, by hand: forms of each kind, a tail, and what stands beside them.
func TestPresented(t *testing.T) {
	for code, want := range map[int]bool{
		0xFE8D: true, 0xFE91: true, 0xFB50: true, 0xFBE8: true, 0xFBFF: true, 0xFE80: true, 0xFEF4: true,
		0xFEF5: true, 0xFEFB: true, 0xFEFC: true, 0xFE70: true, 0xFE74: true, 0xFE77: true, 0xFE7F: true, 0xFC5E: true, 0xFC63: true, 0xFE73: true,
		0: false, 0x20: false, 0x61: false, 0x627: false, 0x640: false, 0x644: false, 0x64E: false, 0x651: false, 0x670: false, 0xFB4F: false, 0xFBB2: false,
		0xFBEA: false, 0xFC5D: false, 0xFC64: false, 0xFDFF: false, 0xFE6F: false, 0xFE75: false, 0xFEFD: false, 0xFEFF: false,
		0x10FFFF: false, 0x11FE73: false, 0x11FE91: false, -1: false, -tail: false,
	} {
		if got := forms.Presented(code); got != want {
			t.Errorf("Presented(%#x): %v", code, got)
		}
	}
}

// P9.3, P9.4: Presented of every code; no code is of two kinds.
func TestPresentedEach(t *testing.T) {
	known := map[int]int{tail: 1}
	for _, m := range []map[shape]int{letters(), ligatures(), accents()} {
		for _, code := range m {
			known[code]++
		}
	}
	for _, code := range piles() {
		known[code]++
	}
	eachCode(func(code int) {
		if got := forms.Presented(code); got != (known[code] > 0) {
			t.Errorf("Presented(%#x): %v", code, got)
		}
		if known[code] > 1 {
			t.Errorf("%#x is there %d times", code, known[code])
		}
	})
}

// P9.4: Base of Form, Parted of Ligate, Mark of Accent, Unpile of Pile, and the other way round.
func TestThereAndBack(t *testing.T) {
	eachCode(func(code int) {
		eachForm(func(form int) {
			if c, ok := forms.Form(code, form); ok {
				if base, f, ok := forms.Base(c); !ok || base != code || f != form {
					t.Errorf("Base of Form(%#x, %d): %#x, %d, %v", code, form, base, f, ok)
				}
			}
			if c, ok := forms.Ligate(code, form); ok {
				if alef, f, ok := forms.Parted(c); !ok || alef != code || f != form {
					t.Errorf("Parted of Ligate(%#x, %d): %#x, %d, %v", code, form, alef, f, ok)
				}
			}
		})
		for _, medial := range []bool{false, true} {
			if c, ok := forms.Accent(code, medial); ok {
				if mark, m, ok := forms.Mark(c); !ok || mark != code || m != medial {
					t.Errorf("Mark of Accent(%#x, %v): %#x, %v, %v", code, medial, mark, m, ok)
				}
			}
		}
		if c, ok := forms.Pile(code); ok {
			if mark, ok := forms.Unpile(c); !ok || mark != code {
				t.Errorf("Unpile of Pile(%#x): %#x, %v", code, mark, ok)
			}
		}
	})
}

// P9.4: no code is known to two of Base, Parted, Mark and Unpile, and a tail to none.
func TestOneKind(t *testing.T) {
	all := 0
	eachCode(func(code int) {
		kinds := 0
		_, _, letter := forms.Base(code)
		_, _, ligature := forms.Parted(code)
		_, _, accent := forms.Mark(code)
		_, pile := forms.Unpile(code)
		for _, is := range []bool{letter, ligature, accent, pile, code == tail} {
			if is {
				kinds++
			}
		}
		if kinds > 1 {
			t.Errorf("%#x is of %d kinds", code, kinds)
		}
		all += kinds
	})
	if want := len(letters()) + len(ligatures()) + len(accents()) + len(piles()) + 1; all != want {
		t.Errorf("%d forms, not %d", all, want)
	}
}
