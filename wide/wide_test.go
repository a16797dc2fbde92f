package wide_test

import (
	"math"
	"slices"
	"testing"
	"unicode/utf16"

	"naskh/api"
	"naskh/wide"
)

// noCodes are numbers that are no code of units: they lie beside those that are, or far from all.
var noCodes = []int{
	-1, -0x110000, math.MinInt, math.MinInt + api.IllBase + 0xD800,
	0xD800, 0xD801, 0xDBFF, 0xDC00, 0xDFFF,
	0x110000, 0x110001, 0x110080, 0x1100FF, 0x11D7FF, 0x11E000, 0x11FFFF, 0x120000, 0x12D800, 0x21D800,
	1 << 31, 1<<32 | 0x61, 1<<32 | 0x11D800, math.MaxInt,
}

// edgeUnits lie at the ends of what is taken alike.
var edgeUnits = []uint16{0, 0x61, 0x627, 0xD7FF, 0xD800, 0xD801, 0xDBFF, 0xDC00, 0xDC01, 0xDFFF, 0xE000, 0xFFFF}

// eachText calls f with every text of edge units of up to n units.
func eachText(n int, f func(u []uint16)) {
	var longer func(u []uint16)
	longer = func(u []uint16) {
		f(u)
		if len(u) == n {
			return
		}
		for _, unit := range edgeUnits {
			longer(append(slices.Clone(u), unit))
		}
	}
	longer(nil)
}

// P1.1: which codes are whole, at every edge.
func TestWhole(t *testing.T) {
	for _, code := range []int{0, 0x61, 0x627, 0xD7FF, 0xE000, 0xFFFF, 0x10000, 0x1F600, 0x10FFFF} {
		if !wide.Whole(code) {
			t.Errorf("Whole(%#x): false", code)
		}
	}
	for _, code := range append([]int{0x11D800, 0x11DBFF, 0x11DC00, 0x11DFFF}, noCodes...) {
		if wide.Whole(code) {
			t.Errorf("Whole(%#x): true", code)
		}
	}
}

// P1.1: Decode, with the edges that the chapter names.
func TestDecode(t *testing.T) {
	for _, c := range []struct {
		name string
		u    []uint16
		want []int
	}{
		{"nothing", nil, nil},
		{"plain", []uint16{0, 0x61, 0x627, 0xFFFF}, []int{0, 0x61, 0x627, 0xFFFF}},
		{"around surrogates", []uint16{0xD7FF, 0xE000}, []int{0xD7FF, 0xE000}},
		{"a pair", []uint16{0xD83D, 0xDE00}, []int{0x1F600}},
		{"the least pair", []uint16{0xD800, 0xDC00}, []int{0x10000}},
		{"the second one highest", []uint16{0xD800, 0xDFFF}, []int{0x103FF}},
		{"the first one next", []uint16{0xD801, 0xDC00}, []int{0x10400}},
		{"the first one highest", []uint16{0xDBFF, 0xDC00}, []int{0x10FC00}},
		{"the greatest pair", []uint16{0xDBFF, 0xDFFF}, []int{0x10FFFF}},
		{"the wrong way round", []uint16{0xDE00, 0xD83D}, []int{0x11DE00, 0x11D83D}},
		{"a first one at the end", []uint16{0x61, 0xD83D}, []int{0x61, 0x11D83D}},
		{"a second one at the beginning", []uint16{0xDC00, 0x61}, []int{0x11DC00, 0x61}},
		{"a first one ahead of a pair", []uint16{0xD83D, 0xD83D, 0xDE00}, []int{0x11D83D, 0x1F600}},
		{"a second one behind a pair", []uint16{0xD83D, 0xDE00, 0xDE00}, []int{0x1F600, 0x11DE00}},
		{"a first one ahead of what is below", []uint16{0xD800, 0xDBFF}, []int{0x11D800, 0x11DBFF}},
		{"a first one ahead of what is above", []uint16{0xDBFF, 0xE000}, []int{0x11DBFF, 0xE000}},
		{"ill ones at their ends", []uint16{0xDFFF, 0xDC00, 0xDBFF}, []int{0x11DFFF, 0x11DC00, 0x11DBFF}},
		{"pairs", []uint16{0xD800, 0xDC00, 0xD800, 0xDC01}, []int{0x10000, 0x10001}},
	} {
		if got := wide.Decode(c.u); !slices.Equal(got, c.want) {
			t.Errorf("%s: Decode(%#x): %#x, not %#x", c.name, c.u, got, c.want)
		}
	}
}

// P1.1: Decode against the library's pairs, for every text of a few edge units.
func TestDecodeEachText(t *testing.T) {
	eachText(4, func(u []uint16) {
		var want []int
		for i := 0; i < len(u); i++ {
			r := utf16.DecodeRune(rune(u[i]), 0)
			if i+1 < len(u) {
				r = utf16.DecodeRune(rune(u[i]), rune(u[i+1]))
			}
			switch {
			case r != 0xFFFD:
				want = append(want, int(r))
				i++
			case utf16.IsSurrogate(rune(u[i])):
				want = append(want, api.IllBase+int(u[i]))
			default:
				want = append(want, int(u[i]))
			}
		}
		if got := wide.Decode(u); !slices.Equal(got, want) {
			t.Fatalf("Decode(%#x): %#x, not %#x", u, got, want)
		}
	})
}

// P1.2: Encode and Size of every number up to beyond the last ill code, against the library's units.
func TestEachCode(t *testing.T) {
	for code := -0x100; code < 0x130000; code++ {
		var want []uint16
		switch {
		case code >= 0x11D800 && code <= 0x11DFFF:
			want = []uint16{uint16(code - 0x110000)}
		case code >= 0 && code <= 0x10FFFF && (code < 0xD800 || code > 0xDFFF):
			want = utf16.AppendRune(nil, rune(code))
		}
		if got := wide.Size(code); got != len(want) {
			t.Fatalf("Size(%#x): %d, not %d", code, got, len(want))
		}
		e := api.OK
		if want == nil {
			e = api.ErrCode
		}
		if got, err := wide.Encode([]int{code}); err != e || !slices.Equal(got, want) {
			t.Fatalf("Encode(%#x): %#x, %d, not %#x, %d", code, got, err, want, e)
		}
	}
}

// P1.2: Encode of texts.
func TestEncode(t *testing.T) {
	if u, e := wide.Encode(nil); e != api.OK || len(u) != 0 {
		t.Errorf("of nothing: %#x, %d", u, e)
	}
	codes := []int{0, 0x627, 0xD7FF, 0xE000, 0xFFFF, 0x10000, 0x10FFFF, 0x11D800, 0x11DFFF, 0x1F600}
	want := []uint16{0, 0x627, 0xD7FF, 0xE000, 0xFFFF, 0xD800, 0xDC00, 0xDBFF, 0xDFFF, 0xD800, 0xDFFF, 0xD83D, 0xDE00}
	if u, e := wide.Encode(codes); e != api.OK || !slices.Equal(u, want) {
		t.Errorf("Encode(%#x): %#x, %d", codes, u, e)
	}
}

// P1.2: one number that is no code has all refused, wherever it stands, and nothing is told beside the error.
func TestEncodeRefuses(t *testing.T) {
	for _, no := range noCodes {
		for at := range 3 {
			codes := []int{0x61, 0x1F600, 0x11D800}
			codes[at] = no
			if u, e := wide.Encode(codes); e != api.ErrCode || u != nil {
				t.Errorf("Encode(%#x): %#x, %d", codes, u, e)
			}
		}
	}
}

// P1.2: Size of what is none, and Sizes of each, in their order.
func TestSizes(t *testing.T) {
	for _, no := range noCodes {
		if n := wide.Size(no); n != 0 {
			t.Errorf("Size(%#x): %d", no, n)
		}
	}
	codes := []int{0x10000, 0xFFFF, -1, 0x11D800, 0xD800, 0x110000, 0x10FFFF, 0}
	if got := wide.Sizes(codes); !slices.Equal(got, []int{2, 1, 0, 1, 0, 0, 2, 1}) {
		t.Errorf("Sizes(%#x): %v", codes, got)
	}
	if got := wide.Sizes(nil); len(got) != 0 {
		t.Errorf("Sizes of nothing: %v", got)
	}
}

// P1.3: Encode of Decode is what went in: every single unit, every text of a few edge units.
func TestThereAndBack(t *testing.T) {
	back := func(u []uint16) {
		codes := wide.Decode(u)
		got, e := wide.Encode(codes)
		if e != api.OK || !slices.Equal(got, u) {
			t.Fatalf("Encode of Decode(%#x): %#x, %d", u, got, e)
		}
		sum := 0
		for _, n := range wide.Sizes(codes) {
			sum += n
		}
		if sum != len(u) {
			t.Fatalf("Sizes of Decode(%#x): %d together", u, sum)
		}
	}
	for unit := range 0x10000 {
		back([]uint16{uint16(unit)})
	}
	eachText(5, back)
}

// R3: what is handed in stays, its spare room too; what is answered is new.
func TestNothingShared(t *testing.T) {
	u := []uint16{0x61, 0xD83D, 0xDE00, 0x62, 0x63}
	a, b := wide.Decode(u[:3]), wide.Decode(u[:3])
	a[0] = 7
	if b[0] != 0x61 || !slices.Equal(u, []uint16{0x61, 0xD83D, 0xDE00, 0x62, 0x63}) {
		t.Errorf("Decode: %#x, %#x", b, u)
	}
	codes := []int{0x61, 0x1F600, 0x62}
	c, _ := wide.Encode(codes[:2])
	d, _ := wide.Encode(codes[:2])
	c[0] = 7
	s := wide.Sizes(codes[:2])
	s[0] = 7
	if d[0] != 0x61 || wide.Size(0x61) != 1 || !slices.Equal(codes, []int{0x61, 0x1F600, 0x62}) {
		t.Errorf("Encode: %#x, %#x", d, codes)
	}
}
