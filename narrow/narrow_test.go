package narrow_test

import (
	"math"
	"slices"
	"testing"
	"unicode/utf8"

	"naskh/api"
	"naskh/narrow"
)

// noCodes are numbers that are no code of bytes: they lie beside those that are, or far from all.
var noCodes = []int{
	-1, -0x110000, math.MinInt, math.MinInt + api.IllBase + 0x80,
	0xD800, 0xD801, 0xDBFF, 0xDC00, 0xDFFF,
	0x110000, 0x110001, 0x11007F, 0x110100, 0x110180, 0x11D800, 0x11DFFF, 0x120080, 0x210080,
	1 << 31, 1<<32 | 0x61, 1<<32 | 0x1100FF, math.MaxInt,
}

// edgeBytes lie at the ends of what is taken alike.
var edgeBytes = []byte{
	0, 0x61, 0x7F, 0x80, 0x82, 0x8F, 0x90, 0x9F, 0xA0, 0xBF, 0xC0, 0xC1, 0xC2, 0xDF,
	0xE0, 0xE1, 0xED, 0xEE, 0xEF, 0xF0, 0xF1, 0xF4, 0xF5, 0xF7, 0xF8, 0xFC, 0xFE, 0xFF,
}

// eachText calls f with every text of edge bytes of up to n bytes.
func eachText(n int, f func(b []byte)) {
	var longer func(b []byte)
	longer = func(b []byte) {
		f(b)
		if len(b) == n {
			return
		}
		for _, x := range edgeBytes {
			longer(append(slices.Clone(b), x))
		}
	}
	longer(nil)
}

// ills are the codes of bytes that are all ill.
func ills(b ...byte) []int {
	var codes []int
	for _, x := range b {
		codes = append(codes, 0x110000+int(x))
	}
	return codes
}

// P2.1: Decode of sequences of each length, at both of its ends.
func TestDecodeSequences(t *testing.T) {
	for _, c := range []struct {
		b    []byte
		want int
	}{
		{[]byte{0}, 0},
		{[]byte{0x61}, 0x61},
		{[]byte{0x7F}, 0x7F},
		{[]byte{0xC2, 0x80}, 0x80},
		{[]byte{0xC3, 0xA4}, 0xE4},
		{[]byte{0xD8, 0xA7}, 0x627},
		{[]byte{0xDF, 0xBF}, 0x7FF},
		{[]byte{0xE0, 0xA0, 0x80}, 0x800},
		{[]byte{0xE4, 0xB8, 0x80}, 0x4E00},
		{[]byte{0xED, 0x9F, 0xBF}, 0xD7FF},
		{[]byte{0xEE, 0x80, 0x80}, 0xE000},
		{[]byte{0xEF, 0xBF, 0xBF}, 0xFFFF},
		{[]byte{0xF0, 0x90, 0x80, 0x80}, 0x10000},
		{[]byte{0xF0, 0x9F, 0x98, 0x80}, 0x1F600},
		{[]byte{0xF4, 0x8F, 0xBF, 0xBF}, 0x10FFFF},
	} {
		if got := narrow.Decode(c.b); !slices.Equal(got, []int{c.want}) {
			t.Errorf("Decode(%#x): %#x, not %#x", c.b, got, c.want)
		}
		if got := narrow.Decode(slices.Concat(c.b, []byte{0x61}, c.b)); !slices.Equal(got, []int{c.want, 0x61, c.want}) {
			t.Errorf("Decode of twice %#x: %#x", c.b, got)
		}
	}
}

// P2.1: bytes that are no sequence are ill, one by one.
func TestDecodeIll(t *testing.T) {
	for _, c := range []struct {
		name string
		b    []byte
	}{
		{"a byte from within", []byte{0x80}},
		{"bytes from within", []byte{0x80, 0xBF}},
		{"two bytes, longer than need be", []byte{0xC0, 0x80}},
		{"two bytes, longer than need be, the greatest", []byte{0xC1, 0xBF}},
		{"three bytes, longer than need be", []byte{0xE0, 0x80, 0x80}},
		{"three bytes, longer than need be, the greatest", []byte{0xE0, 0x9F, 0xBF}},
		{"four bytes, longer than need be", []byte{0xF0, 0x80, 0x80, 0x80}},
		{"four bytes, longer than need be, the greatest", []byte{0xF0, 0x8F, 0xBF, 0xBF}},
		{"two bytes, cut", []byte{0xDF}},
		{"three bytes, cut", []byte{0xE4, 0xB8}},
		{"three bytes, cut to one", []byte{0xEF}},
		{"four bytes, cut", []byte{0xF0, 0x9F, 0x98}},
		{"four bytes, cut to two", []byte{0xF0, 0x9F}},
		{"four bytes, cut to one", []byte{0xF4}},
		{"the first surrogate", []byte{0xED, 0xA0, 0x80}},
		{"the last surrogate", []byte{0xED, 0xBF, 0xBF}},
		{"a pair of surrogates", []byte{0xED, 0xA0, 0xBD, 0xED, 0xB8, 0x80}},
		{"above the greatest code", []byte{0xF4, 0x90, 0x80, 0x80}},
		{"what would be an ill code", []byte{0xF4, 0x90, 0x82, 0x80}},
		{"far above", []byte{0xF7, 0xBF, 0xBF, 0xBF}},
		{"five bytes", []byte{0xF8, 0x88, 0x80, 0x80, 0x80}},
		{"five bytes, small", []byte{0xF8, 0x90, 0x80, 0x80}},
		{"six bytes", []byte{0xFC, 0x84, 0x80, 0x80, 0x80, 0x80}},
		{"what begins nothing", []byte{0xFE, 0xFF}},
		{"first ones alone", []byte{0xC2, 0xE0, 0xF0, 0xF4, 0xC2}},
	} {
		want := ills(c.b...)
		if got := narrow.Decode(c.b); !slices.Equal(got, want) {
			t.Errorf("%s: Decode(%#x): %#x, not %#x", c.name, c.b, got, want)
		}
		if got := narrow.Decode(append(slices.Clone(c.b), 0x61)); !slices.Equal(got, append(want, 0x61)) {
			t.Errorf("%s: Decode(%#x), a letter behind it: %#x", c.name, c.b, got)
		}
	}
}

// P2.1: a sequence that follows a cut one is not lost in it, and one byte too many is ill.
func TestDecodeBesideIll(t *testing.T) {
	for _, c := range []struct {
		b    []byte
		want []int
	}{
		{nil, nil},
		{[]byte{0xE4, 0xB8, 0xC3, 0xA4}, []int{0x1100E4, 0x1100B8, 0xE4}},
		{[]byte{0xF0, 0x9F, 0xE4, 0xB8, 0x80}, []int{0x1100F0, 0x11009F, 0x4E00}},
		{[]byte{0xC3, 0xC3, 0xA4, 0xA4}, []int{0x1100C3, 0xE4, 0x1100A4}},
		{[]byte{0xE0, 0x80, 0x61}, []int{0x1100E0, 0x110080, 0x61}},
		{[]byte{0xF0, 0x61, 0x9F, 0x98}, []int{0x1100F0, 0x61, 0x11009F, 0x110098}},
		{[]byte{0xC3, 0x24}, []int{0x1100C3, 0x24}},
		{[]byte{0xC3, 0xE4, 0x7F}, []int{0x1100C3, 0x1100E4, 0x7F}},
	} {
		if got := narrow.Decode(c.b); !slices.Equal(got, c.want) {
			t.Errorf("Decode(%#x): %#x, not %#x", c.b, got, c.want)
		}
	}
}

// P2.1: Decode against the library's sequences, for every text of a few edge bytes.
func TestDecodeEachText(t *testing.T) {
	eachText(4, func(b []byte) {
		var want []int
		for rest := b; len(rest) > 0; {
			r, size := utf8.DecodeRune(rest)
			if r == utf8.RuneError && size == 1 {
				want = append(want, api.IllBase+int(rest[0]))
			} else {
				want = append(want, int(r))
			}
			rest = rest[size:]
		}
		if got := narrow.Decode(b); !slices.Equal(got, want) {
			t.Fatalf("Decode(%#x): %#x, not %#x", b, got, want)
		}
	})
}

// P2.2: Encode and Size of every number up to beyond the last ill code, against the library's bytes; and P2.1: Decode takes them back.
func TestEachCode(t *testing.T) {
	for code := -0x100; code < 0x120000; code++ {
		var want []byte
		switch {
		case code >= 0x110080 && code <= 0x1100FF:
			want = []byte{byte(code - 0x110000)}
		case code >= 0 && code <= 0x10FFFF && utf8.ValidRune(rune(code)):
			want = utf8.AppendRune(nil, rune(code))
		}
		if got := narrow.Size(code); got != len(want) {
			t.Fatalf("Size(%#x): %d, not %d", code, got, len(want))
		}
		e := api.OK
		if want == nil {
			e = api.ErrCode
		}
		got, err := narrow.Encode([]int{code})
		if err != e || !slices.Equal(got, want) {
			t.Fatalf("Encode(%#x): %#x, %d, not %#x, %d", code, got, err, want, e)
		}
		if back := narrow.Decode(got); err == api.OK && !slices.Equal(back, []int{code}) {
			t.Fatalf("Decode of Encode(%#x): %#x", code, back)
		}
	}
}

// P2.2: Encode of texts.
func TestEncode(t *testing.T) {
	if b, e := narrow.Encode(nil); e != api.OK || len(b) != 0 {
		t.Errorf("of nothing: %#x, %d", b, e)
	}
	codes := []int{0, 0x7F, 0x80, 0x7FF, 0x800, 0xFFFF, 0x10000, 0x10FFFF, 0x110080, 0x1100FF}
	want := []byte{
		0, 0x7F, 0xC2, 0x80, 0xDF, 0xBF, 0xE0, 0xA0, 0x80, 0xEF, 0xBF, 0xBF,
		0xF0, 0x90, 0x80, 0x80, 0xF4, 0x8F, 0xBF, 0xBF, 0x80, 0xFF,
	}
	if b, e := narrow.Encode(codes); e != api.OK || !slices.Equal(b, want) {
		t.Errorf("Encode(%#x): %#x, %d", codes, b, e)
	}
}

// P2.2: one number that is no code has all refused, wherever it stands, and nothing is told beside the error.
func TestEncodeRefuses(t *testing.T) {
	for _, no := range noCodes {
		for at := range 3 {
			codes := []int{0x61, 0x1F600, 0x1100FF}
			codes[at] = no
			if b, e := narrow.Encode(codes); e != api.ErrCode || b != nil {
				t.Errorf("Encode(%#x): %#x, %d", codes, b, e)
			}
		}
	}
}

// P2.2: Size of what is none, and Sizes of each, in their order.
func TestSizes(t *testing.T) {
	for _, no := range noCodes {
		if n := narrow.Size(no); n != 0 {
			t.Errorf("Size(%#x): %d", no, n)
		}
	}
	codes := []int{0x10FFFF, 0x10000, 0xFFFF, 0x800, 0x7FF, 0x80, 0x7F, 0, -1, 0xD800, 0x11007F, 0x110080, 0x1100FF, 0x110100}
	if got := narrow.Sizes(codes); !slices.Equal(got, []int{4, 4, 3, 3, 2, 2, 1, 1, 0, 0, 0, 1, 1, 0}) {
		t.Errorf("Sizes(%#x): %v", codes, got)
	}
	if got := narrow.Sizes(nil); len(got) != 0 {
		t.Errorf("Sizes of nothing: %v", got)
	}
}

// P2.3: Encode of Decode is what went in: every two bytes, every text of a few edge bytes.
func TestThereAndBack(t *testing.T) {
	back := func(b []byte) {
		codes := narrow.Decode(b)
		got, e := narrow.Encode(codes)
		if e != api.OK || !slices.Equal(got, b) {
			t.Fatalf("Encode of Decode(%#x): %#x, %d", b, got, e)
		}
		sum := 0
		for _, n := range narrow.Sizes(codes) {
			sum += n
		}
		if sum != len(b) {
			t.Fatalf("Sizes of Decode(%#x): %d together", b, sum)
		}
	}
	for two := range 0x10000 {
		back([]byte{byte(two >> 8), byte(two)})
	}
	eachText(4, back)
}

// R3: what is handed in stays, its spare room too; what is answered is new.
func TestNothingShared(t *testing.T) {
	text := []byte{0x61, 0xD8, 0xA7, 0x62, 0x63}
	a, b := narrow.Decode(text[:3]), narrow.Decode(text[:3])
	a[0] = 7
	if b[0] != 0x61 || !slices.Equal(text, []byte{0x61, 0xD8, 0xA7, 0x62, 0x63}) {
		t.Errorf("Decode: %#x, %#x", b, text)
	}
	codes := []int{0x61, 0x627, 0x62}
	c, _ := narrow.Encode(codes[:2])
	d, _ := narrow.Encode(codes[:2])
	c[0] = 7
	s := narrow.Sizes(codes[:2])
	s[0] = 7
	if d[0] != 0x61 || narrow.Size(0x61) != 1 || !slices.Equal(codes, []int{0x61, 0x627, 0x62}) {
		t.Errorf("Encode: %#x, %#x", d, codes)
	}
}
