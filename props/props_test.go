package props_test

import (
	"math"
	"slices"
	"testing"

	"naskh/api"
	"naskh/props"
)

const allCodes = api.MaxCode + 1

// noCodes are numbers beside those from 0 to MaxCode, ill units and bytes among them.
var noCodes = []int{
	-1, -2, -0x28, -128, -allCodes, math.MinInt, math.MinInt + 0x30, math.MinInt + 0x300,
	0x110000, 0x110001, 0x110030, 0x1100C0, 0x1100FF, 0x110300, 0x110627, 0x11200E, 0x11D800, 0x11DFFF, 0x120000,
	1 << 31, 1<<32 | 0x627, 1<<32 | 0x30, math.MaxInt - 1, math.MaxInt,
}

// notMade are those that no call made.
func notMade() map[string]*props.Props {
	return map[string]*props.Props{"nil": nil, "zero": {}, "new": new(props.Props)}
}

// eachCode calls f with every code, and with what is none.
func eachCode(f func(code int)) {
	for code := range allCodes {
		f(code)
	}
	for _, code := range noCodes {
		f(code)
	}
}

// spread tells the value of each code from 0 to MaxCode, range by range.
func spread(l []api.Range, none int) []int {
	v := slices.Repeat([]int{none}, allCodes)
	for _, r := range l {
		for code := r.Lo; code <= r.Hi; code++ {
			v[code] = r.Value
		}
	}
	return v
}

// told tells what stands at a code in v; else what all have that is none.
func told(v []int, code, none int) int {
	if code < 0 || code >= len(v) {
		return none
	}
	return v[code]
}

// P7.1: the class of codes of every kind, by hand.
func TestClass(t *testing.T) {
	p := props.New()
	for code, want := range map[int]int{
		0x61: api.L, 0x5D0: api.R, 0x627: api.AL, 0x30: api.EN, 0x2B: api.ES, 0x24: api.ET, 0x665: api.AN, 0x2C: api.CS, 0x64E: api.NSM, 0x200D: api.BN,
		0xA: api.B, 0x9: api.S, 0x20: api.WS, 0x21: api.ON, 0x202A: api.LRE, 0x202D: api.LRO, 0x202B: api.RLE, 0x202E: api.RLO, 0x202C: api.PDF,
		0x2066: api.LRI, 0x2067: api.RLI, 0x2068: api.FSI, 0x2069: api.PDI,
		0: api.BN, 8: api.BN, 0x6F0: api.EN, 0x300: api.NSM, 0x2FF: api.L, 0x370: api.L, 0x200E: api.L, 0x200F: api.R, 0x61C: api.AL, 0xFE8D: api.AL,
		0x4E00: api.L, 0xD800: api.L, 0xDFFF: api.L, 0xE0FFF: api.BN, 0xE1000: api.L, 0x10FFFF: api.L, 0x110000: api.ON, 0x11D800: api.ON, 0x110627: api.ON, -1: api.ON,
	} {
		if got := p.Class(code); got != want {
			t.Errorf("Class(%#x): %d, not %d", code, got, want)
		}
	}
}

// P7.1: the type of codes of every kind, by hand.
func TestJoin(t *testing.T) {
	p := props.New()
	for code, want := range map[int]int{
		0x627: api.JoinR, 0x628: api.JoinD, 0x640: api.JoinC, 0x200D: api.JoinC, 0x64E: api.JoinT, 0xA872: api.JoinL, 0x61: api.JoinU,
		0x621: api.JoinU, 0x200C: api.JoinU, 0x20: api.JoinU, 0xFE8D: api.JoinU, 0: api.JoinU, 0x2FF: api.JoinU, 0x300: api.JoinT,
		0xE0100: api.JoinT, 0xE01EF: api.JoinT, 0xE01F0: api.JoinU, 0x10FFFF: api.JoinU, 0x110000: api.JoinU, 0x110628: api.JoinU, -1: api.JoinU,
	} {
		if got := p.Join(code); got != want {
			t.Errorf("Join(%#x): %d, not %d", code, got, want)
		}
	}
}

// P7.1: class and type of every code, against api's ranges laid out.
func TestEachCode(t *testing.T) {
	p := props.New()
	bidi, join := spread(api.BidiRanges(), api.L), spread(api.JoinRanges(), api.JoinU)
	eachCode(func(code int) {
		if got, want := p.Class(code), told(bidi, code, api.ON); got != want {
			t.Errorf("Class(%#x): %d, not %d", code, got, want)
		}
		if got, want := p.Join(code), told(join, code, api.JoinU); got != want {
			t.Errorf("Join(%#x): %d, not %d", code, got, want)
		}
	})
}

// P7.1: Classes and Joins of each, in order, what is no code among them.
func TestLists(t *testing.T) {
	p := props.New()
	codes := []int{0x61, 0x627, 0x627, 0x64E, -1, 0x30, 0x11D800, 0x628}
	if got, want := p.Classes(codes), []int{api.L, api.AL, api.AL, api.NSM, api.ON, api.EN, api.ON, api.AL}; !slices.Equal(got, want) {
		t.Errorf("Classes: %v, not %v", got, want)
	}
	if got, want := p.Joins(codes), []int{api.JoinU, api.JoinR, api.JoinR, api.JoinT, api.JoinU, api.JoinU, api.JoinU, api.JoinD}; !slices.Equal(got, want) {
		t.Errorf("Joins: %v, not %v", got, want)
	}
	for _, none := range [][]int{nil, {}} {
		if a, b := p.Classes(none), p.Joins(none); len(a) != 0 || len(b) != 0 {
			t.Errorf("of none: %v, %v", a, b)
		}
	}
}

// P7.1: Classes and Joins of many are what Class and Join say of each.
func TestListsEach(t *testing.T) {
	p := props.New()
	var codes []int
	eachCode(func(code int) { codes = append(codes, code) })
	classes, joins := p.Classes(codes), p.Joins(codes)
	if len(classes) != len(codes) || len(joins) != len(codes) {
		t.Fatalf("%d, %d of %d", len(classes), len(joins), len(codes))
	}
	for i, code := range codes {
		if classes[i] != p.Class(code) || joins[i] != p.Join(code) {
			t.Fatalf("%#x: %d, %d", code, classes[i], joins[i])
		}
	}
}

// P7.2: which digit a code is: thirty are one, at the edges of each kind others stand.
func TestDigit(t *testing.T) {
	p := props.New()
	want := map[int][2]int{}
	for i := range 10 {
		want[0x30+i], want[0x660+i], want[0x6F0+i] = [2]int{i, 1}, [2]int{i, 2}, [2]int{i, 3}
	}
	eachCode(func(code int) {
		if n, kind := p.Digit(code); [2]int{n, kind} != want[code] {
			t.Errorf("Digit(%#x): %d, %d", code, n, kind)
		}
	})
	for code, want := range map[int][2]int{
		0x2F: {}, 0x30: {0, 1}, 0x39: {9, 1}, 0x3A: {}, 0x65F: {}, 0x660: {0, 2}, 0x665: {5, 2}, 0x669: {9, 2}, 0x66A: {},
		0x6EF: {}, 0x6F0: {0, 3}, 0x6F7: {7, 3}, 0x6F9: {9, 3}, 0x6FA: {}, 0xB2: {}, 0xFF10: {}, 0x7C0: {},
	} {
		if n, kind := p.Digit(code); [2]int{n, kind} != want {
			t.Errorf("Digit(%#x): %d, %d", code, n, kind)
		}
	}
}

// P7.2: Mark and Strong hang on the class alone, Control on three codes beside it.
func TestKinds(t *testing.T) {
	p := props.New()
	strong := []int{api.L, api.R, api.AL}
	control := []int{api.BN, api.LRE, api.LRO, api.RLE, api.RLO, api.PDF, api.LRI, api.RLI, api.FSI, api.PDI}
	beside := []int{0x200E, 0x200F, 0x61C}
	bidi := spread(api.BidiRanges(), api.L)
	eachCode(func(code int) {
		class := told(bidi, code, api.ON)
		if got := p.Mark(code); got != (class == api.NSM) {
			t.Errorf("Mark(%#x): %v", code, got)
		}
		if got := p.Strong(code); got != slices.Contains(strong, class) {
			t.Errorf("Strong(%#x): %v", code, got)
		}
		if got := p.Control(code); got != (slices.Contains(beside, code) || slices.Contains(control, class)) {
			t.Errorf("Control(%#x): %v", code, got)
		}
	})
}

// P7.2: Mark, Strong and Control, by hand.
func TestKindsByHand(t *testing.T) {
	p := props.New()
	for code, want := range map[int][3]bool{
		0x61: {false, true, false}, 0x5D0: {false, true, false}, 0x627: {false, true, false}, 0x300: {true, false, false}, 0x64E: {true, false, false},
		0x31: {}, 0x661: {}, 0x20: {}, 0x21: {}, 0xA: {}, 0x9: {}, 0x2B: {}, 0x24: {}, 0x2C: {},
		0x200E: {false, true, true}, 0x200F: {false, true, true}, 0x61C: {false, true, true}, 0x61B: {false, true, false}, 0x61D: {false, true, false},
		0x200D: {false, false, true}, 0x2010: {}, 0x202A: {false, false, true}, 0x202B: {false, false, true}, 0x202C: {false, false, true},
		0x202D: {false, false, true}, 0x202E: {false, false, true}, 0x202F: {}, 0x2066: {false, false, true}, 0x2067: {false, false, true},
		0x2068: {false, false, true}, 0x2069: {false, false, true}, 0x206A: {false, false, true}, 0: {false, false, true}, 0x7F: {false, false, true},
		0x10FFFF: {false, true, false}, 0x110000: {}, 0x11D800: {}, 0x11200E: {}, -1: {},
	} {
		if got := [3]bool{p.Mark(code), p.Strong(code), p.Control(code)}; got != want {
			t.Errorf("%#x: %v, not %v", code, got, want)
		}
	}
}

// P7.3: a mark is not strong.
func TestMarkNotStrong(t *testing.T) {
	p := props.New()
	marks := 0
	eachCode(func(code int) {
		if p.Mark(code) {
			marks++
			if p.Strong(code) {
				t.Errorf("%#x is both", code)
			}
		}
	})
	if marks == 0 {
		t.Error("no marks")
	}
}

// P7.1, P7.2: what no call made: ON, JoinU, no digit, no, whatever the code is.
func TestNotMade(t *testing.T) {
	for name, p := range notMade() {
		eachCode(func(code int) {
			if a, b := p.Class(code), p.Join(code); a != api.ON || b != api.JoinU {
				t.Errorf("%s: %#x: %d, %d", name, code, a, b)
			}
			if n, kind := p.Digit(code); n != 0 || kind != 0 {
				t.Errorf("%s: Digit(%#x): %d, %d", name, code, n, kind)
			}
			if p.Mark(code) || p.Strong(code) || p.Control(code) {
				t.Errorf("%s: %#x: %v, %v, %v", name, code, p.Mark(code), p.Strong(code), p.Control(code))
			}
		})
	}
}

// P7.1: lists of what no call made.
func TestListsNotMade(t *testing.T) {
	codes := []int{0x61, 0x627, 0x628, 0x64E, 0x200E, -1, 0x110000}
	for name, p := range notMade() {
		if got := p.Classes(codes); !slices.Equal(got, slices.Repeat([]int{api.ON}, len(codes))) {
			t.Errorf("%s: Classes: %v", name, got)
		}
		if got := p.Joins(codes); !slices.Equal(got, slices.Repeat([]int{api.JoinU}, len(codes))) {
			t.Errorf("%s: Joins: %v", name, got)
		}
		if a, b := p.Classes(nil), p.Joins(nil); len(a) != 0 || len(b) != 0 {
			t.Errorf("%s: of none: %v, %v", name, a, b)
		}
	}
}

// R3: what is handed in stays, its spare room too; what is answered is new. R4: the same calls answer the same, of another Props too.
func TestNothingShared(t *testing.T) {
	p, q := props.New(), props.New()
	room := []int{0x61, 0x627, 0x64E, 7, 7}
	codes := room[:3]
	for _, list := range []func(codes []int) []int{p.Classes, p.Joins, q.Classes, q.Joins} {
		a := list(codes)
		was := slices.Clone(a)
		b := list(codes)
		clear(a)
		_ = append(a, 9, 9)
		if !slices.Equal(b, was) || !slices.Equal(list(codes), was) {
			t.Errorf("%v, not %v", b, was)
		}
		if !slices.Equal(room, []int{0x61, 0x627, 0x64E, 7, 7}) {
			t.Fatalf("handed in: %v", room)
		}
	}
	if !slices.Equal(p.Classes(codes), q.Classes(codes)) || !slices.Equal(p.Joins(codes), q.Joins(codes)) {
		t.Error("two of them are not the same")
	}
}
