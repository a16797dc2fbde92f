package digit_test

import (
	"math"
	"slices"
	"testing"

	"naskh/api"
	"naskh/digit"
	"naskh/props"
)

// Codes in words.
const (
	alef   = 0x627
	latin  = 0x61
	hebrew = 0x5D0
	space  = 0x20
	fatha  = 0x64E
	thaana = 0x780 // AL, too
)

// noCodes are numbers beside those from 0 to MaxCode, what ends in the bits of digits among them.
var noCodes = []int{
	-1, -2, -0x30, -0x31, -0x660, -0x6F9, math.MinInt, math.MinInt + 0x30, math.MinInt + 0x660, 0x110000, 0x110030, 0x110039, 0x110660, 0x1106F0, 0x11D800,
	1<<32 | 0x30, 1<<32 | 0x665, 1<<32 | 0x6F9, math.MaxInt - 0x30, math.MaxInt,
}

// modes are those that are known.
var modes = []int{api.DigitKeep, api.DigitToArabic, api.DigitToEuropean, api.DigitContextLeft, api.DigitContextArabic}

// noModes are numbers beside those of modes.
var noModes = []int{-1, 5, 6, -3, -4, math.MinInt, math.MinInt + 3, 1<<32 | 1, 1<<32 | 2, 1<<32 | 4, math.MaxInt}

// eachCode calls f with every code, and with what is none.
func eachCode(f func(code int)) {
	for code := range api.MaxCode + 1 {
		f(code)
	}
	for _, code := range noCodes {
		f(code)
	}
}

// each calls f with every text of n of these codes.
func each(n int, codes []int, f func(text []int)) {
	all := 1
	for range n {
		all *= len(codes)
	}
	for which := range all {
		text := make([]int, n)
		for at := range text {
			text[at] = codes[which%len(codes)]
			which /= len(codes)
		}
		f(text)
	}
}

// eachWay calls f with both ways, and both kinds.
func eachWay(f func(arabic, eastern bool)) {
	for way := range 4 {
		f(way&1 != 0, way&2 != 0)
	}
}

// ones are what digits become, by tables: what none has stays.
func ones(arabic, eastern bool) map[int]int {
	european := []int{0x30, 0x31, 0x32, 0x33, 0x34, 0x35, 0x36, 0x37, 0x38, 0x39}
	western := []int{0x660, 0x661, 0x662, 0x663, 0x664, 0x665, 0x666, 0x667, 0x668, 0x669}
	persian := []int{0x6F0, 0x6F1, 0x6F2, 0x6F3, 0x6F4, 0x6F5, 0x6F6, 0x6F7, 0x6F8, 0x6F9}
	m := map[int]int{}
	for i := range 10 {
		switch {
		case !arabic:
			m[western[i]], m[persian[i]] = european[i], european[i]
		case eastern:
			m[european[i]] = persian[i]
		default:
			m[european[i]] = western[i]
		}
	}
	return m
}

// one tells what One is to answer.
func one(code int, arabic, eastern bool) int {
	if is, ok := ones(arabic, eastern)[code]; ok {
		return is
	}
	return code
}

// among says whether a place stands behind an AL with no other strong one between, or, where that is asked for, ahead of all strong ones.
func among(p *props.Props, text []int, at int, start bool) bool {
	for at--; at >= 0; at-- {
		switch p.Class(text[at]) {
		case api.AL:
			return true
		case api.L, api.R:
			return false
		}
	}
	return start
}

// became tells what Text is to answer, by the words of the promise.
func became(p *props.Props, text []int, mode int, eastern bool) []int {
	l := make([]int, len(text))
	for at, code := range text {
		l[at] = code
		switch {
		case mode == api.DigitToArabic:
			l[at] = one(code, true, eastern)
		case mode == api.DigitToEuropean:
			l[at] = one(code, false, eastern)
		case mode == api.DigitContextLeft && among(p, text, at, false), mode == api.DigitContextArabic && among(p, text, at, true):
			l[at] = one(code, true, eastern)
		}
	}
	return l
}

// holds fails unless Text answers what the promises say, in every mode.
func holds(t *testing.T, p *props.Props, text []int) {
	t.Helper()
	for _, mode := range append(modes, -1, 5) {
		for _, eastern := range []bool{false, true} {
			if got, want := digit.Text(p, text, mode, eastern), became(p, text, mode, eastern); !slices.Equal(got, want) {
				t.Fatalf("Text(%#x, %d, %v): %#x, not %#x", text, mode, eastern, got, want)
			}
		}
	}
}

// P17.1: One, by hand: digits at the edges of each kind, and what stands beside them.
func TestOne(t *testing.T) {
	for _, e := range []struct{ code, arabic, eastern, european int }{
		{0x30, 0x660, 0x6F0, 0x30}, {0x31, 0x661, 0x6F1, 0x31}, {0x35, 0x665, 0x6F5, 0x35}, {0x39, 0x669, 0x6F9, 0x39},
		{0x660, 0x660, 0x660, 0x30}, {0x664, 0x664, 0x664, 0x34}, {0x669, 0x669, 0x669, 0x39},
		{0x6F0, 0x6F0, 0x6F0, 0x30}, {0x6F4, 0x6F4, 0x6F4, 0x34}, {0x6F9, 0x6F9, 0x6F9, 0x39},
		{0x2F, 0x2F, 0x2F, 0x2F}, {0x3A, 0x3A, 0x3A, 0x3A}, {0x65F, 0x65F, 0x65F, 0x65F}, {0x66A, 0x66A, 0x66A, 0x66A}, {0x6EF, 0x6EF, 0x6EF, 0x6EF}, {0x6FA, 0x6FA, 0x6FA, 0x6FA},
		{0xB2, 0xB2, 0xB2, 0xB2}, {0xFF11, 0xFF11, 0xFF11, 0xFF11}, {0x7C1, 0x7C1, 0x7C1, 0x7C1}, {alef, alef, alef, alef}, {0, 0, 0, 0}, {-0x31, -0x31, -0x31, -0x31}, {0x110031, 0x110031, 0x110031, 0x110031},
	} {
		got := []int{digit.One(e.code, true, false), digit.One(e.code, true, true), digit.One(e.code, false, false), digit.One(e.code, false, true)}
		if !slices.Equal(got, []int{e.arabic, e.eastern, e.european, e.european}) {
			t.Errorf("One(%#x): %#x", e.code, got)
		}
	}
}

// P17.1: One of every code, and of what is none.
func TestOneEach(t *testing.T) {
	eachWay(func(arabic, eastern bool) {
		m := ones(arabic, eastern)
		eachCode(func(code int) {
			want, ok := m[code]
			if !ok {
				want = code
			}
			if got := digit.One(code, arabic, eastern); got != want {
				t.Errorf("One(%#x, %v, %v): %#x, not %#x", code, arabic, eastern, got, want)
			}
		})
	})
}

// P17.2: texts by hand.
func TestText(t *testing.T) {
	p := props.New()
	for _, e := range []struct {
		text    []int
		mode    int
		eastern bool
		want    []int
	}{
		{[]int{alef, 0x31}, api.DigitContextLeft, false, []int{alef, 0x661}},
		{[]int{alef, 0x31}, api.DigitContextLeft, true, []int{alef, 0x6F1}},
		{[]int{0x31, alef, 0x32, latin, 0x33}, api.DigitContextLeft, false, []int{0x31, alef, 0x662, latin, 0x33}},
		{[]int{0x31, alef, 0x32, latin, 0x33}, api.DigitContextArabic, false, []int{0x661, alef, 0x662, latin, 0x33}},
		{[]int{0x31, alef, 0x32, hebrew, 0x33, alef, 0x34}, api.DigitContextLeft, false, []int{0x31, alef, 0x662, hebrew, 0x33, alef, 0x664}},
		{[]int{0x31, latin, 0x32}, api.DigitContextArabic, false, []int{0x661, latin, 0x32}},
		{[]int{0x31, hebrew, 0x32}, api.DigitContextArabic, true, []int{0x6F1, hebrew, 0x32}},
		{[]int{0x31, 0x32}, api.DigitContextArabic, false, []int{0x661, 0x662}},
		{[]int{0x31, 0x32}, api.DigitContextLeft, false, []int{0x31, 0x32}},
		{[]int{alef, 0x661, 0x6F2, 0x33}, api.DigitContextLeft, false, []int{alef, 0x661, 0x6F2, 0x663}},
		{[]int{latin, 0x661, 0x6F2, 0x33}, api.DigitContextArabic, false, []int{latin, 0x661, 0x6F2, 0x33}},
		{[]int{alef, space, fatha, 0x2C, 0x31, 0x2E, 0x32}, api.DigitContextLeft, false, []int{alef, space, fatha, 0x2C, 0x661, 0x2E, 0x662}},
		{[]int{alef, 0x200E, 0x31, 0x61C, 0x32, 0x200F, 0x33}, api.DigitContextLeft, false, []int{alef, 0x200E, 0x31, 0x61C, 0x662, 0x200F, 0x33}},
		{[]int{alef, 0x2029, 0x31, 0x202A, 0x32, 0x2067, 0x33, 0x2069, 0x34}, api.DigitContextLeft, false, []int{alef, 0x2029, 0x661, 0x202A, 0x662, 0x2067, 0x663, 0x2069, 0x664}},
		{[]int{alef, -1, 0x31, 0x11D800, 0x32}, api.DigitContextLeft, false, []int{alef, -1, 0x661, 0x11D800, 0x662}},
		{[]int{thaana, 0x30, 0xFE8D, 0x39}, api.DigitContextLeft, true, []int{thaana, 0x6F0, 0xFE8D, 0x6F9}},
		{[]int{latin, 0x31, alef, 0x662, 0x6F3}, api.DigitToArabic, false, []int{latin, 0x661, alef, 0x662, 0x6F3}},
		{[]int{latin, 0x31, alef, 0x662, 0x6F3}, api.DigitToArabic, true, []int{latin, 0x6F1, alef, 0x662, 0x6F3}},
		{[]int{latin, 0x31, alef, 0x662, 0x6F3}, api.DigitToEuropean, false, []int{latin, 0x31, alef, 0x32, 0x33}},
		{[]int{latin, 0x31, alef, 0x662, 0x6F3}, api.DigitToEuropean, true, []int{latin, 0x31, alef, 0x32, 0x33}},
		{[]int{latin, 0x31, alef, 0x32, 0x663}, api.DigitKeep, true, []int{latin, 0x31, alef, 0x32, 0x663}},
	} {
		if l := digit.Text(p, e.text, e.mode, e.eastern); !slices.Equal(l, e.want) {
			t.Errorf("Text(%#x, %d, %v): %#x", e.text, e.mode, e.eastern, l)
		}
		holds(t, p, e.text)
	}
}

// P17.2: of a number that is no mode the text.
func TestUnknownMode(t *testing.T) {
	p := props.New()
	text := []int{0x31, alef, 0x32, 0x663, 0x6F4, latin, 0x35}
	for _, mode := range noModes {
		for _, eastern := range []bool{false, true} {
			if l := digit.Text(p, text, mode, eastern); !slices.Equal(l, text) {
				t.Errorf("%d: %#x", mode, l)
			}
		}
	}
}

// P17.2: every text of up to five codes, among them all kinds of digits, strong codes, and such as are passed over.
func TestEach(t *testing.T) {
	p := props.New()
	for n := range 6 {
		each(n, []int{0x30, 0x665, 0x6F9, alef, latin, hebrew, space}, func(text []int) { holds(t, p, text) })
	}
	for n := range 5 {
		each(n, []int{0x39, thaana, 0x200E, 0x200F, 0x61C, fatha, 0x2029, 0x2068, -1}, func(text []int) { holds(t, p, text) })
	}
}

// P17.2: each code between an AL and a digit, and ahead of a digit: what is strong, and what is passed over.
func TestStrong(t *testing.T) {
	p := props.New()
	eachCode(func(code int) {
		behind, start := 0x31, 0x31
		if !p.Strong(code) || p.Class(code) == api.AL {
			behind, start = 0x661, 0x661
		}
		if l := digit.Text(p, []int{alef, code, 0x31}, api.DigitContextLeft, false); l[2] != behind {
			t.Errorf("behind %#x: %#x", code, l)
		}
		if l := digit.Text(p, []int{code, 0x31}, api.DigitContextArabic, false); l[1] != start {
			t.Errorf("at the start, behind %#x: %#x", code, l)
		}
		left := 0x31
		if p.Class(code) == api.AL {
			left = 0x661
		}
		if l := digit.Text(p, []int{code, 0x31}, api.DigitContextLeft, false); l[1] != left {
			t.Errorf("behind %#x alone: %#x", code, l)
		}
	})
}

// P17.3: of all codes in a row, as many stay, and those that are no digits stay what they are, in every mode.
func TestNothingElse(t *testing.T) {
	p := props.New()
	text := []int{alef}
	eachCode(func(code int) { text = append(text, code) })
	for _, mode := range append(modes, noModes...) {
		for _, eastern := range []bool{false, true} {
			l := digit.Text(p, text, mode, eastern)
			if len(l) != len(text) {
				t.Fatalf("%d: %d codes of %d", mode, len(l), len(text))
			}
			for at, code := range text {
				if _, kind := p.Digit(code); kind == 0 && l[at] != code {
					t.Fatalf("%d: %#x became %#x", mode, code, l[at])
				}
				was, _ := p.Digit(code)
				if is, _ := p.Digit(l[at]); is != was {
					t.Fatalf("%d: %#x became %#x", mode, code, l[at])
				}
			}
		}
	}
}

// A long text: the last strong code is far away.
func TestLong(t *testing.T) {
	p := props.New()
	text := slices.Repeat([]int{0x31}, 1<<21)
	if l := digit.Text(p, text, api.DigitContextArabic, true); len(l) != len(text) || slices.Min(l) != 0x6F1 || slices.Max(l) != 0x6F1 {
		t.Error("no strong code")
	}
	text[1] = alef
	if l := digit.Text(p, text, api.DigitContextLeft, false); l[0] != 0x31 || slices.Min(l[2:]) != 0x661 || slices.Max(l[2:]) != 0x661 {
		t.Error("one strong code")
	}
}

// R3, R6: what is handed in is not changed, its spare room included; what is told shares nothing with it; nil is as empty.
func TestOwnMemory(t *testing.T) {
	p := props.New()
	for _, mode := range append(modes, noModes...) {
		if len(digit.Text(p, nil, mode, false)) != 0 || len(digit.Text(p, []int{}, mode, true)) != 0 {
			t.Errorf("%d: of nothing something", mode)
		}
		text := []int{0x31, alef, 0x662, 0x33, 0x34, 0x35}
		was := slices.Clone(text)
		for range 2 {
			l := digit.Text(p, text[:4], mode, false)
			if !slices.Equal(l, became(p, was[:4], mode, false)) {
				t.Errorf("%d: %#x", mode, l)
			}
			l = l[:cap(l)]
			for i := range l {
				l[i] = 9
			}
			if !slices.Equal(text, was) {
				t.Fatalf("%d: changed: %#x", mode, text)
			}
		}
	}
}
