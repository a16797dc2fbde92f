package pairs_test

import (
	"math"
	"testing"

	"naskh/api"
	"naskh/pairs"
)

// noCodes are numbers beside those from 0 to MaxCode.
var noCodes = []int{
	-1, -2, -0x28, -0x29, math.MinInt, math.MinInt + 0x28, 0x110000, 0x110028, 0x110029, 0x112329, 0x11D800, 0x120000,
	1 << 31, 1<<32 | 0x28, 1<<32 | 0x29, 1<<32 | 0x2329, math.MaxInt - 0x28, math.MaxInt,
}

// eachCode calls f with every code, and with what is none.
func eachCode(f func(code int)) {
	for code := range api.MaxCode + 1 {
		f(code)
	}
	for _, code := range noCodes {
		f(code)
	}
}

// some are codes in pairs, and some that are in none.
func some() []int {
	l := []int{0, 0x27, 0x2A, 0x61, 0x627, 0x2328, 0x232B, 0x3007, 0x10FFFF}
	for _, p := range append(api.Mirrors(), api.Brackets()...) {
		l = append(l, p.Open, p.Close)
	}
	return append(l, noCodes...)
}

// P8.1: Mirror, by hand: both ways, of brackets and of others.
func TestMirror(t *testing.T) {
	for code, want := range map[int]int{
		0x28: 0x29, 0x29: 0x28, 0x3C: 0x3E, 0x3E: 0x3C, 0xAB: 0xBB, 0xBB: 0xAB, 0x2208: 0x220B, 0x220B: 0x2208, 0x2264: 0x2265, 0xFF62: 0xFF63, 0xFF63: 0xFF62,
		0x2329: 0x232A, 0x232A: 0x2329, 0x3008: 0x3009, 0x3009: 0x3008,
		0x61: 0x61, 0x627: 0x627, 0x2F: 0x2F, 0x27: 0x27, 0x2A: 0x2A, 0x2209: 0x2209, 0x22: 0x22, 0: 0, 0x10FFFF: 0x10FFFF, 0x110028: 0x110028, -0x28: -0x28,
	} {
		if got := pairs.Mirror(code); got != want {
			t.Errorf("Mirror(%#x): %#x, not %#x", code, got, want)
		}
	}
}

// P8.1: Mirror of every code, against api's pairs.
func TestMirrorEach(t *testing.T) {
	other := map[int]int{}
	for _, p := range api.Mirrors() {
		other[p.Open], other[p.Close] = p.Close, p.Open
	}
	eachCode(func(code int) {
		want, ok := other[code]
		if !ok {
			want = code
		}
		if got := pairs.Mirror(code); got != want {
			t.Errorf("Mirror(%#x): %#x, not %#x", code, got, want)
		}
	})
}

// P8.1: Canon of every code: two are the same as others, which stay, as all else does.
func TestCanon(t *testing.T) {
	same := map[int]int{0x2329: 0x3008, 0x232A: 0x3009}
	eachCode(func(code int) {
		want, ok := same[code]
		if !ok {
			want = code
		}
		if got := pairs.Canon(code); got != want {
			t.Errorf("Canon(%#x): %#x, not %#x", code, got, want)
		}
	})
}

// P8.2: Bracket, by hand: those that are alike have the same code; what is mirrored only is no bracket.
func TestBracket(t *testing.T) {
	for code, want := range map[int][2]int{
		0x28: {1, 0x29}, 0x29: {2, 0x29}, 0x5B: {1, 0x5D}, 0x5D: {2, 0x5D}, 0x7B: {1, 0x7D}, 0x7D: {2, 0x7D}, 0xFF62: {1, 0xFF63}, 0xFF63: {2, 0xFF63},
		0x2329: {1, 0x3009}, 0x232A: {2, 0x3009}, 0x3008: {1, 0x3009}, 0x3009: {2, 0x3009},
		0x3C: {}, 0x3E: {}, 0xAB: {}, 0xBB: {}, 0x2039: {}, 0xFE64: {}, 0x61: {}, 0x627: {}, 0x27: {}, 0x2A: {}, 0: {}, 0x10FFFF: {}, 0x110028: {}, -1: {}, -0x28: {},
	} {
		if kind, as := pairs.Bracket(code); [2]int{kind, as} != want {
			t.Errorf("Bracket(%#x): %d, %#x", code, kind, as)
		}
	}
}

// P8.2: Bracket of every code, against api's pairs.
func TestBracketEach(t *testing.T) {
	same := map[int]int{0x232A: 0x3009}
	want := map[int][2]int{}
	for _, p := range api.Brackets() {
		as, ok := same[p.Close]
		if !ok {
			as = p.Close
		}
		want[p.Open], want[p.Close] = [2]int{1, as}, [2]int{2, as}
	}
	eachCode(func(code int) {
		if kind, as := pairs.Bracket(code); [2]int{kind, as} != want[code] {
			t.Errorf("Bracket(%#x): %d, %#x", code, kind, as)
		}
	})
}

// P8.2: Match, by hand.
func TestMatch(t *testing.T) {
	for _, p := range append(api.Brackets(), api.Pair{Open: 0x2329, Close: 0x3009}, api.Pair{Open: 0x3008, Close: 0x232A}) {
		if !pairs.Match(p.Open, p.Close) {
			t.Errorf("Match(%#x, %#x): no", p.Open, p.Close)
		}
		if pairs.Match(p.Close, p.Open) || pairs.Match(p.Open, p.Open) || pairs.Match(p.Close, p.Close) {
			t.Errorf("%#x, %#x the other way, or with themselves", p.Open, p.Close)
		}
	}
	for _, p := range [][2]int{
		{0x28, 0x5D}, {0x5B, 0x29}, {0x3C, 0x3E}, {0xAB, 0xBB}, {0x28, 0x61}, {0x61, 0x29}, {0x61, 0x61}, {0, 0}, {-1, -1},
		{0x110028, 0x110029}, {0x28, 0x110029}, {0x2329, 0x29}, {0x28, 0x3009}, {0x28, 0xFF09}, {0x2329, 0x3008}, {0x232A, 0x3009},
	} {
		if pairs.Match(p[0], p[1]) {
			t.Errorf("Match(%#x, %#x): yes", p[0], p[1])
		}
	}
}

// P8.2: Match of codes of every kind with all others, against what Bracket says of both.
func TestMatchEach(t *testing.T) {
	l := some()
	for _, open := range l {
		first, a := pairs.Bracket(open)
		for _, close := range l {
			last, b := pairs.Bracket(close)
			if got := pairs.Match(open, close); got != (first == 1 && last == 2 && a == b) {
				t.Fatalf("Match(%#x, %#x): %v", open, close, got)
			}
		}
	}
}

// P8.3: Mirror of Mirror is the code.
func TestMirrorTwice(t *testing.T) {
	eachCode(func(code int) {
		if got := pairs.Mirror(pairs.Mirror(code)); got != code {
			t.Errorf("%#x: %#x", code, got)
		}
	})
}
