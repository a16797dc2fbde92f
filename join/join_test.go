package join_test

import (
	"math"
	"slices"
	"testing"

	"naskh/api"
	"naskh/join"
	"naskh/props"
)

// Types in fewer letters.
const (
	U = api.JoinU
	T = api.JoinT
	R = api.JoinR
	D = api.JoinD
	L = api.JoinL
	C = api.JoinC
)

// Forms in fewer letters.
const (
	none     = api.FormNone
	isolated = api.FormIsolated
	final    = api.FormFinal
	initial  = api.FormInitial
	medial   = api.FormMedial
)

// noTypes are numbers beside those of types.
var noTypes = []int{-1, 6, 7, math.MinInt, math.MinInt + 3, 1<<32 | D, math.MaxInt}

// far are numbers that are no place of any text here.
var far = []int{-1, -2, math.MinInt, math.MinInt + 1, 1 << 32, math.MaxInt - 1, math.MaxInt}

// two are the types of places that join: the one ahead, and the one behind it.
type two struct{ ahead, behind int }

// joins are those of which the first one joins the second one.
var joins = []two{{D, D}, {D, R}, {D, C}, {L, D}, {L, R}, {L, C}, {C, D}, {C, R}, {C, C}}

// kept tells the places that are not passed over, rising.
func kept(types []int) []int {
	var places []int
	for at, kind := range types {
		if kind != T {
			places = append(places, at)
		}
	}
	return places
}

// A told is what is so of a place.
type told struct {
	ahead, behind int
	joined, over  bool
	form          int
}

// model tells what is so of each place, by way of the places that are kept: which of two neighbours join, then what lies between them.
func model(types []int) []told {
	l := make([]told, len(types))
	for at := range l {
		l[at].ahead, l[at].behind = -1, -1
	}
	places := kept(types)
	for k, at := range places {
		for i := at + 1; i < len(types); i++ {
			l[i].ahead = at
		}
		for i := range at {
			if l[i].behind < 0 {
				l[i].behind = at
			}
		}
		if k+1 < len(places) && slices.Contains(joins, two{types[at], types[places[k+1]]}) {
			l[at].joined = true
			for i := at + 1; i < places[k+1]; i++ {
				l[i].over = true
			}
		}
	}
	for k, at := range places {
		if kind := types[at]; kind != D && kind != R && kind != L {
			continue
		}
		l[at].form = isolated
		if l[at].joined {
			l[at].form = initial
		}
		if k > 0 && l[places[k-1]].joined {
			l[at].form++
			if l[at].joined {
				l[at].form = medial
			}
		}
	}
	return l
}

// holds fails unless all calls answer what the model says, of each place and of what is none.
func holds(t *testing.T, types []int) {
	t.Helper()
	want := model(types)
	got := join.Forms(types)
	if len(got) != len(types) {
		t.Fatalf("Forms(%d): %d", types, got)
	}
	for at, w := range want {
		g := told{join.Ahead(types, at), join.Behind(types, at), join.Joined(types, at), join.Over(types, at), got[at]}
		if g != w {
			t.Fatalf("%d of %d: %v, not %v", at, types, g, w)
		}
	}
	for _, at := range append([]int{len(types), len(types) + 1}, far...) {
		g := told{join.Ahead(types, at), join.Behind(types, at), join.Joined(types, at), join.Over(types, at), 0}
		if g != (told{ahead: -1, behind: -1}) {
			t.Fatalf("%d of %d: %v", at, types, g)
		}
	}
}

// each calls f with every list of n types, of which one is none.
func each(n int, f func(types []int)) {
	all := 1
	for range n {
		all *= 7
	}
	for which := range all {
		types := make([]int, n)
		for at := range types {
			types[at] = which % 7
			which /= 7
		}
		f(types)
	}
}

// P13.1: Ahead and Behind, by hand: what is passed over is none, also the place itself may be.
func TestAheadAndBehind(t *testing.T) {
	for _, e := range []struct {
		types             []int
		at, ahead, behind int
	}{
		{nil, 0, -1, -1}, {[]int{}, -1, -1, -1}, {[]int{D}, 0, -1, -1}, {[]int{T}, 0, -1, -1},
		{[]int{D, R}, 0, -1, 1}, {[]int{D, R}, 1, 0, -1}, {[]int{D, R}, 2, -1, -1}, {[]int{D, R}, -1, -1, -1},
		{[]int{U, T, T, U}, 0, -1, 3}, {[]int{U, T, T, U}, 1, 0, 3}, {[]int{U, T, T, U}, 2, 0, 3}, {[]int{U, T, T, U}, 3, 0, -1},
		{[]int{T, D, T}, 0, -1, 1}, {[]int{T, D, T}, 1, -1, -1}, {[]int{T, D, T}, 2, 1, -1}, {[]int{T, T, T}, 1, -1, -1},
		{[]int{D, L, C, R}, 1, 0, 2}, {[]int{D, L, C, R}, 2, 1, 3}, {[]int{D, L, C, R}, 3, 2, -1}, {[]int{-1, T, 6}, 1, 0, 2},
		{[]int{D, D, D}, 3, -1, -1}, {[]int{D, D, D}, math.MaxInt, -1, -1}, {[]int{D, D, D}, math.MinInt, -1, -1},
	} {
		if ahead, behind := join.Ahead(e.types, e.at), join.Behind(e.types, e.at); ahead != e.ahead || behind != e.behind {
			t.Errorf("%d of %d: ahead %d, behind %d", e.at, e.types, ahead, behind)
		}
	}
}

// P13.1: Joined, by hand, of every two types, with none and with two places between that are passed over.
func TestJoined(t *testing.T) {
	kinds := append([]int{U, T, R, D, L, C}, noTypes...)
	for _, ahead := range kinds {
		for _, behind := range kinds {
			want := slices.Contains(joins, two{ahead, behind})
			for _, types := range [][]int{{ahead, behind}, {ahead, T, T, behind}, {ahead, behind, T}, {ahead, T, behind, U}} {
				if got := join.Joined(types, 0); behind != T && got != want {
					t.Errorf("Joined(%d, 0): %v", types, got)
				}
			}
		}
		for _, types := range [][]int{{ahead}, {ahead, T}, {ahead, T, T, T}} {
			if join.Joined(types, 0) {
				t.Errorf("Joined(%d, 0), though nothing is behind", types)
			}
		}
	}
	if join.Joined([]int{D, T, D}, 1) || join.Joined([]int{T, D}, 0) {
		t.Error("what is passed over joins")
	}
	for _, at := range append([]int{2, 3}, far...) {
		if join.Joined([]int{D, D}, at) || join.Joined(nil, at) {
			t.Errorf("Joined of %d", at)
		}
	}
}

// P13.2: Forms, by hand.
func TestForms(t *testing.T) {
	for _, e := range []struct{ types, want []int }{
		{nil, nil}, {[]int{}, nil}, {[]int{D, T, R}, []int{initial, none, final}},
		{[]int{U}, []int{none}}, {[]int{T}, []int{none}}, {[]int{C}, []int{none}}, {[]int{R}, []int{isolated}}, {[]int{D}, []int{isolated}}, {[]int{L}, []int{isolated}},
		{[]int{D, D}, []int{initial, final}}, {[]int{D, D, D}, []int{initial, medial, final}}, {[]int{D, D, D, D}, []int{initial, medial, medial, final}},
		{[]int{D, R, D}, []int{initial, final, isolated}}, {[]int{R, R}, []int{isolated, isolated}}, {[]int{R, D}, []int{isolated, isolated}},
		{[]int{D, U, D}, []int{isolated, none, isolated}}, {[]int{L, D}, []int{initial, final}}, {[]int{D, L}, []int{isolated, isolated}},
		{[]int{L, L, R}, []int{isolated, initial, final}}, {[]int{C, D, C}, []int{none, medial, none}}, {[]int{D, C}, []int{initial, none}},
		{[]int{C, R}, []int{none, final}}, {[]int{R, C}, []int{isolated, none}}, {[]int{C, L}, []int{none, isolated}}, {[]int{L, C}, []int{initial, none}},
		{[]int{D, T, T, D, T}, []int{initial, none, none, final, none}}, {[]int{T, D, T}, []int{none, isolated, none}}, {[]int{T, T}, []int{none, none}},
		{[]int{D, 6, D}, []int{isolated, none, isolated}}, {[]int{D, -1, R}, []int{isolated, none, isolated}},
		{[]int{D, T, U, T, D, R}, []int{isolated, none, none, none, initial, final}},
	} {
		if got := join.Forms(e.types); !slices.Equal(got, e.want) {
			t.Errorf("Forms(%d): %d, not %d", e.types, got, e.want)
		}
	}
}

// P13.2: Over, by hand: what stands between two that join, at its edges, and what is no place.
func TestOver(t *testing.T) {
	for _, e := range []struct {
		types []int
		at    int
		want  bool
	}{
		{[]int{D, T, R}, 1, true}, {[]int{D, T, R}, 0, false}, {[]int{D, T, R}, 2, false}, {[]int{D, T, T, C}, 1, true}, {[]int{D, T, T, C}, 2, true},
		{[]int{R, T, D}, 1, false}, {[]int{D, T, L}, 1, false}, {[]int{L, T, D}, 1, true}, {[]int{C, T, C}, 1, true}, {[]int{D, T, U}, 1, false},
		{[]int{D, T}, 1, false}, {[]int{T, D}, 0, false}, {[]int{T}, 0, false}, {[]int{T, T, D}, 1, false}, {[]int{D, R, T, D}, 2, false},
		{[]int{D, D, T, D}, 2, true}, {[]int{D, 6, D}, 1, false}, {[]int{D, D, D}, 1, false}, {[]int{D, U, T, D}, 2, false},
		{[]int{D, T, R}, 3, false}, {[]int{D, T, R}, -1, false}, {nil, 0, false}, {[]int{D, T, R}, math.MaxInt, false}, {[]int{D, T, R}, math.MinInt, false},
	} {
		if got := join.Over(e.types, e.at); got != e.want {
			t.Errorf("Over(%d, %d): %v", e.types, e.at, got)
		}
	}
}

// P13.1, P13.2: every list of up to six types, one of them none.
func TestEach(t *testing.T) {
	for n := range 7 {
		each(n, func(types []int) { holds(t, types) })
	}
}

// P13.1, P13.2: numbers that are no type join nothing, have no form, and are not passed over.
func TestNoTypes(t *testing.T) {
	for _, kind := range noTypes {
		for n := range 5 {
			each(n, func(types []int) {
				for at := range types {
					if types[at] == 6 {
						types[at] = kind
					}
				}
				holds(t, types)
			})
		}
	}
}

// P13.3: behind an initial or a medial form stands a final or a medial one, or what has others join.
func TestWhatFollows(t *testing.T) {
	for n := range 7 {
		each(n, func(types []int) {
			l := join.Forms(types)
			for at, f := range l {
				if f != initial && f != medial {
					continue
				}
				next := join.Behind(types, at)
				if next < 0 || types[next] != C && l[next] != final && l[next] != medial {
					t.Fatalf("Forms(%d): %d", types, l)
				}
			}
		})
	}
}

// P13.2: words, by the types that their codes have.
func TestWords(t *testing.T) {
	p := props.New()
	for _, e := range []struct{ text, want []int }{
		{[]int{0x628, 0x650, 0x633, 0x652, 0x645}, []int{initial, none, medial, none, final}},
		{[]int{0x628, 0x627, 0x628}, []int{initial, final, isolated}},
		{[]int{0x628, 0x640, 0x627}, []int{initial, none, final}},
		{[]int{0x628, 0x200D}, []int{initial, none}}, {[]int{0x200D, 0x628}, []int{none, final}}, {[]int{0x628, 0x200C, 0x628}, []int{isolated, none, isolated}},
		{[]int{0x628, 0x200B, 0x628}, []int{initial, none, final}}, {[]int{0x621, 0x628}, []int{none, isolated}}, {[]int{0xA872, 0xA871}, []int{initial, final}},
		{[]int{0x628, 0x61, 0x628}, []int{isolated, none, isolated}}, {[]int{0x628, 0x20, 0x628}, []int{isolated, none, isolated}},
		{[]int{0x628, 0x110628, 0x628}, []int{isolated, none, isolated}}, {[]int{0xFE91, 0xFE8E}, []int{none, none}},
	} {
		if got := join.Forms(p.Joins(e.text)); !slices.Equal(got, e.want) {
			t.Errorf("%#x: %d, not %d", e.text, got, e.want)
		}
	}
}

// Texts as long as there may be end, also those of marks, or of letters apart by many.
func TestLong(t *testing.T) {
	types := slices.Repeat([]int{T}, api.MaxText)
	last := len(types) - 1
	if l := join.Forms(types); len(l) != len(types) || slices.Max(l) != none || join.Ahead(types, last) != -1 || join.Behind(types, 0) != -1 || join.Over(types, last) {
		t.Error("marks alone")
	}
	types[0], types[last] = D, R
	if l := join.Forms(types); l[0] != initial || l[last] != final || slices.Max(l[1:last]) != none {
		t.Error("letters apart")
	}
	if join.Ahead(types, last) != 0 || join.Behind(types, 0) != last || !join.Joined(types, 0) || !join.Over(types, 1) || !join.Over(types, last-1) {
		t.Error("what is far")
	}
	for at := range types {
		types[at] = D
	}
	if l := join.Forms(types); l[0] != initial || l[last] != final || slices.Min(l[1:last]) != medial {
		t.Error("letters alone")
	}
}

// R3: what is handed in is not changed, its spare room included; what is told may be changed, and is told again.
func TestOwnMemory(t *testing.T) {
	room := []int{D, T, D, T, R, U, D, D}
	was := slices.Clone(room)
	types := room[:5]
	for range 2 {
		l := join.Forms(types)
		if !slices.Equal(l, []int{initial, none, medial, none, final}) {
			t.Errorf("%d", l)
		}
		l = l[:cap(l)]
		for at := range l {
			l[at] = 9
		}
		for at := range types {
			join.Ahead(types, at)
			join.Behind(types, at)
			join.Joined(types, at)
			join.Over(types, at)
		}
		if !slices.Equal(room, was) {
			t.Errorf("changed: %d", room)
		}
	}
	if join.Behind(types, 4) != -1 {
		t.Error("spare room is no place")
	}
}
