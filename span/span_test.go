package span_test

import (
	"math"
	"slices"
	"testing"

	"naskh/api"
	"naskh/span"
)

// of is a span in fewer words.
func of(lo, hi int) api.Span { return api.Span{Lo: lo, Hi: hi} }

// wrongs are spans that are not right, at their edges and far away.
var wrongs = []api.Span{
	{}, of(1, 1), of(1, 0), of(5, 2), of(-1, 0), of(-1, 1), of(-3, 4), of(-2, -1), of(-1, -2),
	of(math.MinInt, math.MaxInt), of(math.MinInt, 1), of(math.MaxInt, math.MaxInt), of(math.MaxInt, math.MinInt), of(0, math.MinInt),
}

// eachList calls f with every list of up to n spans between lo and hi, right or not.
func eachList(n, lo, hi int, f func(l []api.Span)) {
	var longer func(l []api.Span)
	longer = func(l []api.Span) {
		f(l)
		if len(l) == n {
			return
		}
		for a := lo; a <= hi; a++ {
			for b := lo; b <= hi; b++ {
				longer(append(slices.Clone(l), of(a, b)))
			}
		}
	}
	longer(nil)
}

// P3.1: which spans are right, and how many places they have.
func TestRightAndSize(t *testing.T) {
	for _, c := range []struct {
		s    api.Span
		size int
	}{
		{of(0, 1), 1}, {of(0, 5), 5}, {of(3, 4), 1}, {of(3, 10), 7},
		{of(0, math.MaxInt), math.MaxInt}, {of(math.MaxInt-1, math.MaxInt), 1},
	} {
		if !span.Right(c.s) || span.Size(c.s) != c.size {
			t.Errorf("%v: %v, %d", c.s, span.Right(c.s), span.Size(c.s))
		}
	}
	for _, s := range wrongs {
		if span.Right(s) || span.Size(s) != 0 {
			t.Errorf("%v: %v, %d", s, span.Right(s), span.Size(s))
		}
	}
}

// P3.1: Has asks for Lo and Hi alone, whether the span is right or not.
func TestHas(t *testing.T) {
	for _, c := range []struct {
		s    api.Span
		at   int
		want bool
	}{
		{of(2, 4), 1, false}, {of(2, 4), 2, true}, {of(2, 4), 3, true}, {of(2, 4), 4, false},
		{of(0, 0), 0, false}, {of(3, 1), 2, false}, {of(3, 1), 3, false}, {of(3, 1), 0, false},
		{of(-2, 1), -3, false}, {of(-2, 1), -2, true}, {of(-2, 1), 0, true}, {of(-2, 1), 1, false},
		{of(0, math.MaxInt), math.MaxInt - 1, true}, {of(0, math.MaxInt), math.MaxInt, false},
		{of(math.MinInt, 0), math.MinInt, true},
	} {
		if got := span.Has(c.s, c.at); got != c.want {
			t.Errorf("Has(%v, %d): %v", c.s, c.at, got)
		}
	}
}

// P3.1: Parts, with what is lacking, too much, or in no order.
func TestParts(t *testing.T) {
	for _, c := range []struct {
		l    []api.Span
		n    int
		want bool
	}{
		{nil, 0, true}, {[]api.Span{}, 0, true}, {nil, 1, false}, {nil, -1, false},
		{[]api.Span{of(0, 1)}, 1, true}, {[]api.Span{of(0, 5)}, 5, true},
		{[]api.Span{of(0, 2), of(2, 3), of(3, 7)}, 7, true},
		{[]api.Span{of(0, 1)}, 0, false}, {[]api.Span{of(0, 1)}, 2, false}, {[]api.Span{of(1, 2)}, 2, false},
		{[]api.Span{of(0, 2), of(3, 5)}, 5, false}, {[]api.Span{of(0, 3), of(2, 5)}, 5, false},
		{[]api.Span{of(2, 5), of(0, 2)}, 5, false}, {[]api.Span{of(0, 2), of(0, 2)}, 2, false},
		{[]api.Span{{}}, 0, false}, {[]api.Span{of(0, 2), of(2, 2)}, 2, false}, {[]api.Span{of(0, 0), of(0, 2)}, 2, false},
		{[]api.Span{of(0, 3), of(3, 1)}, 1, false}, {[]api.Span{of(-1, 2)}, 2, false}, {[]api.Span{of(0, -1)}, -1, false},
		{[]api.Span{of(0, 3), of(3, 1), of(1, 5)}, 5, false},
		{[]api.Span{of(0, 1), of(1, math.MaxInt)}, math.MaxInt, true},
		{nil, math.MinInt, false},
	} {
		if got := span.Parts(c.l, c.n); got != c.want {
			t.Errorf("Parts(%v, %d): %v", c.l, c.n, got)
		}
	}
}

// P3.1: Find tells the first one that has the place.
func TestFind(t *testing.T) {
	l := []api.Span{of(4, 6), of(0, 2), of(1, 5), of(3, 3), of(-2, 0), of(9, 7)}
	for at, want := range map[int]int{-3: -1, -2: 4, -1: 4, 0: 1, 1: 1, 2: 2, 3: 2, 4: 0, 5: 0, 6: -1, 7: -1, 8: -1, 9: -1, math.MaxInt: -1, math.MinInt: -1} {
		if got := span.Find(l, at); got != want {
			t.Errorf("Find(%d): %d, not %d", at, got, want)
		}
	}
	if got := span.Find(nil, 0); got != -1 {
		t.Errorf("Find in nothing: %d", got)
	}
}

// P3.2: Cut.
func TestCut(t *testing.T) {
	for _, c := range []struct {
		s    api.Span
		at   []int
		want []api.Span
	}{
		{of(0, 5), []int{2, 3}, []api.Span{of(0, 2), of(2, 3), of(3, 5)}},
		{of(0, 5), nil, []api.Span{of(0, 5)}},
		{of(4, 5), nil, []api.Span{of(4, 5)}},
		{of(4, 8), []int{5, 6, 7}, []api.Span{of(4, 5), of(5, 6), of(6, 7), of(7, 8)}},
		{of(2, 9), []int{8}, []api.Span{of(2, 8), of(8, 9)}},
		{of(0, math.MaxInt), []int{math.MaxInt - 1}, []api.Span{of(0, math.MaxInt-1), of(math.MaxInt-1, math.MaxInt)}},
	} {
		if got, e := span.Cut(c.s, c.at...); e != api.OK || !slices.Equal(got, c.want) {
			t.Errorf("Cut(%v, %v): %v, %d", c.s, c.at, got, e)
		}
	}
}

// P3.2: what Cut refuses: a span that is not right ahead of cuts that do not rise within it.
func TestCutRefuses(t *testing.T) {
	for _, s := range wrongs {
		for _, at := range [][]int{nil, {0}, {1, 1}, {2, 1}} {
			if got, e := span.Cut(s, at...); e != api.ErrArg || got != nil {
				t.Errorf("Cut(%v, %v): %v, %d", s, at, got, e)
			}
		}
	}
	for _, at := range [][]int{
		{2}, {1}, {0}, {-1}, {6}, {7}, {3, 3}, {4, 3}, {3, 4, 4}, {3, 6}, {2, 4}, {5, 3}, {3, 5, 4},
		{math.MinInt}, {math.MaxInt}, {3, math.MaxInt}, {3, math.MinInt},
	} {
		if got, e := span.Cut(of(2, 6), at...); e != api.ErrOrder || got != nil {
			t.Errorf("Cut at %v: %v, %d", at, got, e)
		}
	}
}

// P3.2: Hull goes round the right ones alone.
func TestHull(t *testing.T) {
	for _, c := range []struct {
		l    []api.Span
		want api.Span
	}{
		{nil, api.Span{}},
		{wrongs, api.Span{}},
		{[]api.Span{of(3, 4)}, of(3, 4)},
		{[]api.Span{of(3, 4), of(7, 9)}, of(3, 9)},
		{[]api.Span{of(7, 9), of(3, 4)}, of(3, 9)},
		{[]api.Span{of(2, 9), of(3, 4)}, of(2, 9)},
		{[]api.Span{of(3, 4), of(2, 9), of(0, 1)}, of(0, 9)},
		{[]api.Span{of(5, 6), of(5, 6)}, of(5, 6)},
		{slices.Concat(wrongs, []api.Span{of(5, 6), of(4, 5)}, wrongs), of(4, 6)},
		{[]api.Span{of(0, 1), of(math.MaxInt-1, math.MaxInt)}, of(0, math.MaxInt)},
	} {
		if got := span.Hull(c.l...); got != c.want {
			t.Errorf("Hull(%v): %v, not %v", c.l, got, c.want)
		}
	}
}

// groups tells Groups from the promise's words: there is a cut wherever no span that counts goes on.
func groups(n int, together []api.Span) []api.Span {
	var l []api.Span
	lo := 0
	for at := 1; at <= n; at++ {
		within := false
		for _, s := range together {
			within = within || s.Lo >= 0 && s.Lo < s.Hi && s.Hi <= n && s.Lo < at && at < s.Hi
		}
		if !within {
			l = append(l, of(lo, at))
			lo = at
		}
	}
	return l
}

// P3.3: Groups of every few spans, right or not, within n or not; P3.5: they are Parts of n.
func TestGroupsEach(t *testing.T) {
	for n := -1; n <= 4; n++ {
		eachList(2, -1, 5, func(l []api.Span) {
			got := span.Groups(n, l)
			if !slices.Equal(got, groups(n, l)) {
				t.Fatalf("Groups(%d, %v): %v", n, l, got)
			}
			if n >= 0 && !span.Parts(got, n) {
				t.Fatalf("Groups(%d, %v): %v are no Parts", n, l, got)
			}
		})
	}
	eachList(3, 0, 5, func(l []api.Span) {
		if got := span.Groups(5, l); !slices.Equal(got, groups(5, l)) {
			t.Fatalf("Groups(5, %v): %v", l, got)
		}
	})
}

// P3.3: Groups where spans touch, share, lie within one another, or do not count.
func TestGroups(t *testing.T) {
	for _, c := range []struct {
		n        int
		together []api.Span
		want     []api.Span
	}{
		{4, []api.Span{of(1, 3)}, []api.Span{of(0, 1), of(1, 3), of(3, 4)}},
		{0, nil, nil}, {0, []api.Span{of(0, 1)}, nil}, {-1, nil, nil}, {-4, []api.Span{of(0, 1), of(-5, -4)}, nil}, {math.MinInt, wrongs, nil},
		{1, nil, []api.Span{of(0, 1)}},
		{3, wrongs, []api.Span{of(0, 1), of(1, 2), of(2, 3)}},
		{4, []api.Span{of(0, 2), of(2, 4)}, []api.Span{of(0, 2), of(2, 4)}},
		{4, []api.Span{of(0, 2), of(1, 4)}, []api.Span{of(0, 4)}},
		{6, []api.Span{of(0, 5), of(1, 2), of(4, 6)}, []api.Span{of(0, 6)}},
		{4, []api.Span{of(2, 5), of(0, 2)}, []api.Span{of(0, 2), of(2, 3), of(3, 4)}},
		{5, []api.Span{of(2, 5), of(0, 2)}, []api.Span{of(0, 2), of(2, 5)}},
	} {
		if got := span.Groups(c.n, c.together); !slices.Equal(got, c.want) {
			t.Errorf("Groups(%d, %v): %v, not %v", c.n, c.together, got, c.want)
		}
	}
}

// P3.3: a great n with few parts; and one with more of them than an answer holds makes no panic.
func TestGroupsOfMany(t *testing.T) {
	got := span.Groups(math.MaxInt, []api.Span{of(2, 9), of(1, math.MaxInt-1), of(0, 1)})
	want := []api.Span{of(0, 1), of(1, math.MaxInt-1), of(math.MaxInt-1, math.MaxInt)}
	if !slices.Equal(got, want) {
		t.Errorf("Groups: %v", got)
	}
	if got := span.Groups(math.MaxInt, nil); got != nil {
		t.Errorf("Groups of too many: %d", len(got))
	}
	if got := span.Groups(api.MaxText, []api.Span{of(3, api.MaxText)}); !slices.Equal(got, []api.Span{of(0, 1), of(1, 2), of(2, 3), of(3, api.MaxText)}) {
		t.Errorf("Groups of MaxText: %d", len(got))
	}
}

// P3.4: what Cut says are Parts, where the span begins at 0; and their Hull is the span.
func TestCutParts(t *testing.T) {
	for set := range 1 << 5 {
		var at []int
		for i := range 5 {
			if set>>i&1 == 1 {
				at = append(at, i+1)
			}
		}
		l, e := span.Cut(of(0, 6), at...)
		if e != api.OK || len(l) != len(at)+1 || !span.Parts(l, 6) || span.Hull(l...) != of(0, 6) {
			t.Errorf("Cut at %v: %v, %d", at, l, e)
		}
	}
}

// P3.5: Groups hang on no order of what they are told.
func TestGroupsOrder(t *testing.T) {
	eachList(3, 0, 4, func(l []api.Span) {
		back := slices.Clone(l)
		slices.Reverse(back)
		if a, b := span.Groups(4, l), span.Groups(4, back); !slices.Equal(a, b) {
			t.Fatalf("Groups(4, %v): %v; the other way %v", l, a, b)
		}
	})
}

// R3: what is handed in stays, its spare room too; what is answered is new.
func TestNothingShared(t *testing.T) {
	together := []api.Span{of(3, 5), of(9, 2), of(0, 2), of(1, 4), of(7, 8)}
	was := slices.Clone(together)
	a, b := span.Groups(8, together[:4]), span.Groups(8, together[:4])
	a[0] = of(7, 7)
	if !slices.Equal(together, was) || b[0] != of(0, 5) {
		t.Errorf("Groups: %v, %v", together, b)
	}
	at := []int{2, 3, 4}
	c, _ := span.Cut(of(0, 5), at[:2]...)
	d, _ := span.Cut(of(0, 5), at[:2]...)
	c[0] = of(7, 7)
	if !slices.Equal(at, []int{2, 3, 4}) || d[0] != of(0, 2) {
		t.Errorf("Cut: %v, %v", at, d)
	}
	if span.Hull(together...); !slices.Equal(together, was) {
		t.Errorf("Hull: %v", together)
	}
}
