package strip_test

import (
	"math"
	"slices"
	"testing"

	"naskh/api"
	"naskh/props"
	"naskh/strip"
)

// each calls f with every list of n of these.
func each(n int, items []int, f func(list []int)) {
	all := 1
	for range n {
		all *= len(items)
	}
	for which := range all {
		list := make([]int, n)
		for at := range list {
			list[at] = items[which%len(items)]
			which /= len(items)
		}
		f(list)
	}
}

// control says whether a code is a Control, by its class in api's ranges.
func control(code int) bool {
	if code == 0x200E || code == 0x200F || code == 0x61C {
		return true
	}
	for _, r := range ranges {
		if code >= r.Lo && code <= r.Hi {
			return r.Value == api.BN || r.Value >= api.LRE && r.Value <= api.PDI
		}
	}
	return false
}

// ranges are api's, asked for once.
var ranges = api.BidiRanges()

// same says whether the calls tell P33.1 word by word, and what follows (P33.2).
func same(t *testing.T, p *props.Props, codes []int) {
	t.Helper()
	var keep []bool
	var kept, places []int
	for at, code := range codes {
		gone := control(code)
		keep = append(keep, !gone)
		if !gone {
			kept, places = append(kept, code), append(places, at)
		}
	}
	if list := strip.Keep(p, codes); !slices.Equal(list, keep) {
		t.Fatalf("Keep of %x: %v", codes, list)
	}
	list := strip.Codes(p, codes)
	if !slices.Equal(list, kept) {
		t.Fatalf("Codes of %x: %x", codes, list)
	}
	if again := strip.Codes(p, list); !slices.Equal(again, list) {
		t.Fatalf("Codes of Codes of %x: %x", codes, again)
	}
	if list := strip.Places(p, codes); !slices.Equal(list, places) {
		t.Fatalf("Places of %x: %d", codes, list)
	}
}

// P33.1, by hand.
func TestStrip(t *testing.T) {
	p := props.New()
	for _, c := range []struct{ codes, kept, places []int }{
		{nil, nil, nil},
		{[]int{'a'}, []int{'a'}, []int{0}},
		{[]int{0x200F}, nil, nil},
		{[]int{'a', 0x200F, 'b'}, []int{'a', 'b'}, []int{0, 2}},
		{[]int{0x200E, 0x61C, 0x200D, 0x200C, 0xAD, 0xFEFF, 0}, nil, nil},
		{[]int{0x202A, 0x202B, 0x202C, 0x202D, 0x202E, 0x2066, 0x2067, 0x2068, 0x2069}, nil, nil},
		{[]int{0x2029, 0xA, 0x9, 0x20, 0x640, 0x64E, 0x30, 0xFFFC}, []int{0x2029, 0xA, 0x9, 0x20, 0x640, 0x64E, 0x30, 0xFFFC}, []int{0, 1, 2, 3, 4, 5, 6, 7}},
		{[]int{0x200F, 'a', 'a', 0x200F, 0x200F, 'a'}, []int{'a', 'a', 'a'}, []int{1, 2, 5}},
		{[]int{0x11D800, -1, -0x200F, 1<<32 + 0x200F, api.IllBase + 0x200F, math.MaxInt, math.MinInt}, []int{0x11D800, -1, -0x200F, 1<<32 + 0x200F, api.IllBase + 0x200F, math.MaxInt, math.MinInt}, []int{0, 1, 2, 3, 4, 5, 6}},
	} {
		if list := strip.Codes(p, c.codes); !slices.Equal(list, c.kept) {
			t.Errorf("Codes of %x: %x", c.codes, list)
		}
		if list := strip.Places(p, c.codes); !slices.Equal(list, c.places) {
			t.Errorf("Places of %x: %d", c.codes, list)
		}
		same(t, p, c.codes)
	}
}

// P33.1, P33.2: every code by itself and in one text, and numbers that are none.
func TestEveryCode(t *testing.T) {
	p := props.New()
	codes := []int{}
	for code := -300; code < api.IllBase+0xE100; code++ {
		codes = append(codes, code)
	}
	same(t, p, codes)
	for code := range 0x3100 {
		same(t, p, []int{code})
	}
}

// P33.1, P33.2: every short text of these.
func TestEveryShortText(t *testing.T) {
	p := props.New()
	for n := range 7 {
		each(n, []int{'a', 0x200F, 0x2069, 0x64E, -1}, func(codes []int) { same(t, p, codes) })
	}
}

// R1: what New did not make knows no control.
func TestPropsThatNoCallMade(t *testing.T) {
	for _, p := range []*props.Props{nil, {}} {
		codes := []int{'a', 0x200F, 0x2067}
		if keep := strip.Keep(p, codes); len(keep) != 3 || len(strip.Codes(p, codes)) != 3 || len(strip.Places(p, codes)) != 3 {
			t.Error("a code is gone", keep)
		}
	}
}

// R3: what is answered is one's own, and what was given is as it was.
func TestOwnMemory(t *testing.T) {
	p := props.New()
	room := []int{'a', 0x200F, 'b', 77, 77}
	for _, codes := range [][]int{room[:3], room[:1], room[2:3]} {
		for _, list := range [][]int{strip.Codes(p, codes), strip.Places(p, codes)} {
			list = append(list, 99)
			list = list[:cap(list)]
			for at := range list {
				list[at] = 99
			}
		}
	}
	if !slices.Equal(room, []int{'a', 0x200F, 'b', 77, 77}) {
		t.Error("what was given is not what it was", room)
	}
	same(t, p, room[:3])
}

// A text of MaxText.
func TestMaxText(t *testing.T) {
	p := props.New()
	codes := slices.Repeat([]int{'a', 0x200F}, api.MaxText/2)
	keep, kept, places := strip.Keep(p, codes), strip.Codes(p, codes), strip.Places(p, codes)
	if len(keep) != api.MaxText || len(kept) != api.MaxText/2 || len(places) != api.MaxText/2 {
		t.Fatal(len(keep), len(kept), len(places))
	}
	for at, code := range kept {
		if code != 'a' || places[at] != 2*at || !keep[2*at] || keep[2*at+1] {
			t.Fatal("place", at)
		}
	}
}
