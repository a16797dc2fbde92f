package index_test

import (
	"math"
	"slices"
	"testing"

	"naskh/api"
	"naskh/cluster"
	"naskh/index"
)

// of is a span in fewer words.
func of(lo, hi int) api.Span { return api.Span{Lo: lo, Hi: hi} }

// to is a cluster in fewer words.
func to(a, b, c, d int) api.Cluster { return api.Cluster{In: of(a, b), Out: of(c, d)} }

// far are numbers that are no place of any text here.
var far = []int{-1, -2, math.MinInt, math.MinInt + 1, 1 << 32, math.MaxInt - 1, math.MaxInt}

// made tells an index, or ends the test.
func made(t *testing.T, sizes ...int) *index.Index {
	t.Helper()
	x, e := index.New(sizes...)
	if e != api.OK || x == nil {
		t.Fatalf("New of %d sizes: %v, %d", len(sizes), x, e)
	}
	return x
}

// eachSizes calls f with every list of up to n sizes from 1 to most.
func eachSizes(n, most int, f func(sizes []int)) {
	var longer func(sizes []int)
	longer = func(sizes []int) {
		f(sizes)
		if len(sizes) == n {
			return
		}
		for size := 1; size <= most; size++ {
			longer(append(slices.Clone(sizes), size))
		}
	}
	longer(nil)
}

// owners tells of each unit which code it is of, and which one of its units it is.
func owners(sizes []int) (codes, ats []int) {
	for code, size := range sizes {
		for at := range size {
			codes, ats = append(codes, code), append(ats, at)
		}
	}
	return codes, ats
}

// P5.1: what New takes.
func TestNew(t *testing.T) {
	for _, c := range []struct {
		sizes        []int
		codes, units int
	}{
		{nil, 0, 0}, {[]int{1}, 1, 1}, {[]int{1, 2, 1}, 3, 4}, {[]int{4, 4, 4, 4}, 4, 16}, {[]int{1000, 1}, 2, 1001},
		{[]int{api.MaxText}, 1, api.MaxText}, {[]int{1, api.MaxText - 1}, 2, api.MaxText}, {[]int{api.MaxText - 2, 1, 1}, 3, api.MaxText},
	} {
		x := made(t, c.sizes...)
		if x.Codes() != c.codes || x.Units() != c.units {
			t.Errorf("New(%v): %d, %d", c.sizes, x.Codes(), x.Units())
		}
	}
}

// P5.1: what New refuses: one below 1, wherever it stands, ahead of too many.
func TestNewRefuses(t *testing.T) {
	for _, c := range []struct {
		sizes []int
		want  api.Errno
	}{
		{[]int{0}, api.ErrArg}, {[]int{-1}, api.ErrArg}, {[]int{math.MinInt}, api.ErrArg},
		{[]int{0, 1, 1}, api.ErrArg}, {[]int{1, 0, 1}, api.ErrArg}, {[]int{1, 1, 0}, api.ErrArg}, {[]int{2, -1}, api.ErrArg},
		{[]int{api.MaxText, 1, 0}, api.ErrArg}, {[]int{math.MaxInt, -1}, api.ErrArg}, {[]int{math.MaxInt, math.MaxInt, math.MinInt}, api.ErrArg},
		{[]int{api.MaxText + 1}, api.ErrLong}, {[]int{api.MaxText, 1}, api.ErrLong}, {[]int{1, api.MaxText}, api.ErrLong},
		{[]int{1, 1, api.MaxText - 1}, api.ErrLong}, {[]int{math.MaxInt}, api.ErrLong}, {[]int{1, math.MaxInt}, api.ErrLong},
		{[]int{math.MaxInt, 1}, api.ErrLong}, {[]int{math.MaxInt, math.MaxInt, 2, 5}, api.ErrLong}, {[]int{1 << 32, 1 << 32}, api.ErrLong},
	} {
		if x, e := index.New(c.sizes...); e != c.want || x != nil {
			t.Errorf("New(%v): %v, %d, not %d", c.sizes, x, e, c.want)
		}
	}
}

// P5.1, P5.2: as many codes as there may be, and one more.
func TestMaxText(t *testing.T) {
	sizes := slices.Repeat([]int{1}, api.MaxText+1)
	x := made(t, sizes[:api.MaxText]...)
	if x.Codes() != api.MaxText || x.Units() != api.MaxText {
		t.Errorf("MaxText sizes: %d, %d", x.Codes(), x.Units())
	}
	const last = api.MaxText - 1
	if s, e := x.Span(last); e != api.OK || s != of(last, api.MaxText) {
		t.Errorf("the last code: %v, %d", s, e)
	}
	if code, at, e := x.Code(last); e != api.OK || code != last || at != 0 {
		t.Errorf("the last unit: %d, %d, %d", code, at, e)
	}
	if n, e := x.Break(api.MaxText); e != api.OK || n != api.MaxText {
		t.Errorf("the last break: %d, %d", n, e)
	}
	if x, e := index.New(sizes...); e != api.ErrLong || x != nil {
		t.Errorf("one more: %v, %d", x, e)
	}
	sizes[api.MaxText] = 0
	if x, e := index.New(sizes...); e != api.ErrArg || x != nil {
		t.Errorf("one more, that is 0: %v, %d", x, e)
	}
}

// P5.2: Span, Code and Break, by hand.
func TestPlaces(t *testing.T) {
	x := made(t, 1, 2, 1, 3)
	for code, want := range []api.Span{of(0, 1), of(1, 3), of(3, 4), of(4, 7)} {
		if s, e := x.Span(code); e != api.OK || s != want {
			t.Errorf("Span(%d): %v, %d", code, s, e)
		}
	}
	for unit, want := range [][2]int{{0, 0}, {1, 0}, {1, 1}, {2, 0}, {3, 0}, {3, 1}, {3, 2}} {
		if code, at, e := x.Code(unit); e != api.OK || [2]int{code, at} != want {
			t.Errorf("Code(%d): %d, %d, %d", unit, code, at, e)
		}
	}
	for unit, want := range map[int]int{0: 0, 1: 1, 3: 2, 4: 3, 7: 4} {
		if n, e := x.Break(unit); e != api.OK || n != want {
			t.Errorf("Break(%d): %d, %d", unit, n, e)
		}
	}
	for _, unit := range []int{2, 5, 6} {
		if n, e := x.Break(unit); e != api.ErrSplit || n != 0 {
			t.Errorf("Break(%d): %d, %d", unit, n, e)
		}
	}
}

// P5.2: every unit and every break of every few sizes, against a list of whose each unit is.
func TestPlacesEach(t *testing.T) {
	eachSizes(5, 4, func(sizes []int) {
		x := made(t, sizes...)
		codes, ats := owners(sizes)
		for unit, code := range codes {
			c, at, e := x.Code(unit)
			if e != api.OK || c != code || at != ats[unit] {
				t.Fatalf("%v: Code(%d): %d, %d, %d", sizes, unit, c, at, e)
			}
			n, e := x.Break(unit)
			if ats[unit] == 0 && (e != api.OK || n != code) || ats[unit] > 0 && (e != api.ErrSplit || n != 0) {
				t.Fatalf("%v: Break(%d): %d, %d", sizes, unit, n, e)
			}
		}
		if n, e := x.Break(len(codes)); e != api.OK || n != len(sizes) {
			t.Fatalf("%v: Break at the end: %d, %d", sizes, n, e)
		}
	})
}

// P5.2: what there is none of is refused.
func TestPlacesRefuse(t *testing.T) {
	for _, sizes := range [][]int{nil, {1}, {2, 1}, {1, 2, 4}} {
		x := made(t, sizes...)
		for _, code := range append([]int{x.Codes(), x.Codes() + 1}, far...) {
			if s, e := x.Span(code); e != api.ErrArg || s != (api.Span{}) {
				t.Errorf("%v: Span(%d): %v, %d", sizes, code, s, e)
			}
		}
		for _, unit := range append([]int{x.Units(), x.Units() + 1}, far...) {
			if code, at, e := x.Code(unit); e != api.ErrArg || code != 0 || at != 0 {
				t.Errorf("%v: Code(%d): %d, %d, %d", sizes, unit, code, at, e)
			}
		}
		for _, unit := range append([]int{x.Units() + 1, x.Units() + 2}, far...) {
			if n, e := x.Break(unit); e != api.ErrArg || n != 0 {
				t.Errorf("%v: Break(%d): %d, %d", sizes, unit, n, e)
			}
		}
	}
}

// P5.2: without codes there is one break, that lies ahead of none and behind all.
func TestNoCodes(t *testing.T) {
	if n, e := made(t).Break(0); e != api.OK || n != 0 {
		t.Errorf("Break(0): %d, %d", n, e)
	}
}

// P5.3: Clusters, in the order in which they stand.
func TestClusters(t *testing.T) {
	cross := []api.Cluster{to(0, 1, 1, 2), to(1, 2, 0, 1)}
	for _, c := range []struct {
		name    string
		x, y    []int
		l, want []api.Cluster
	}{
		{"nothing", nil, nil, nil, nil},
		{"one unit each", []int{1, 1}, []int{1, 1}, cross, cross},
		{"crossed", []int{1, 2}, []int{3, 1}, cross, []api.Cluster{to(0, 1, 3, 4), to(1, 3, 0, 3)}},
		{"two become one", []int{2, 1, 2}, []int{2, 1}, []api.Cluster{to(0, 2, 1, 2), to(2, 3, 0, 1)}, []api.Cluster{to(0, 3, 2, 3), to(3, 5, 0, 2)}},
		{"one becomes two", []int{4}, []int{2, 3}, []api.Cluster{to(0, 1, 0, 2)}, []api.Cluster{to(0, 4, 0, 5)}},
		{
			"more of them", []int{2, 2, 1, 1}, []int{1, 3, 3, 1, 2},
			[]api.Cluster{to(0, 1, 4, 5), to(1, 3, 0, 2), to(3, 4, 2, 4)}, []api.Cluster{to(0, 2, 8, 10), to(2, 5, 0, 4), to(5, 6, 4, 8)},
		},
	} {
		got, e := made(t, c.x...).Clusters(c.l, made(t, c.y...))
		if e != api.OK || !slices.Equal(got, c.want) {
			t.Errorf("%s: %v, %d, not %v", c.name, got, e, c.want)
		}
	}
}

// P5.3: the Identity comes to the spans of each code; and what Clusters says is a map of units to units.
func TestClustersEach(t *testing.T) {
	eachSizes(4, 3, func(sizes []int) {
		n := len(sizes)
		back := slices.Clone(sizes)
		slices.Reverse(back)
		x, y := made(t, sizes...), made(t, back...)
		l, e := x.Clusters(cluster.Identity(n), y)
		if e != api.OK || !cluster.Check(l, x.Units(), y.Units()) || len(l) != n {
			t.Fatalf("%v: %v, %d", sizes, l, e)
		}
		for code := range n {
			in, _ := x.Span(code)
			out, _ := y.Span(code)
			if l[code] != (api.Cluster{In: in, Out: out}) {
				t.Fatalf("%v: %v of code %d", sizes, l[code], code)
			}
		}
		if l, e := x.Clusters(cluster.Identity(n), x); e != api.OK || !cluster.Check(l, x.Units(), x.Units()) {
			t.Fatalf("%v, to itself: %v, %d", sizes, l, e)
		}
	})
}

// P5.3: Clusters refuses what is no map of these codes to those; an index that is nil it refuses ahead of that.
func TestClustersRefuses(t *testing.T) {
	x, y := made(t, 1, 2), made(t, 2, 2, 1)
	fits := []api.Cluster{to(0, 1, 1, 3), to(1, 2, 0, 1)}
	if l, e := x.Clusters(fits, y); e != api.OK || len(l) != 2 {
		t.Errorf("what fits: %v, %d", l, e)
	}
	for _, l := range [][]api.Cluster{
		nil, {{}}, {to(0, 1, 1, 3)}, {to(0, 1, 1, 2), to(1, 2, 0, 1)}, {to(0, 1, 1, 4), to(1, 2, 0, 1)}, {to(1, 2, 0, 1), to(0, 1, 1, 3)},
		{to(0, 1, 0, 3), to(1, 2, 2, 3)}, {to(0, 1, 0, 1), to(1, 2, 2, 3)}, {to(0, 2, 0, 2)}, {to(0, 3, 0, 3)},
		{to(0, 1, 1, 3), to(1, 2, -1, 1)}, {to(-1, 1, 1, 3), to(1, 2, 0, 1)}, {to(0, 1, 1, 3), to(1, math.MaxInt, 0, 1)},
		{to(0, 3, 0, 5)}, {to(0, 1, 2, 5), to(1, 3, 0, 2)}, cluster.Identity(2), cluster.Identity(3), cluster.Turn(fits),
	} {
		if got, e := x.Clusters(l, y); e != api.ErrMap || got != nil {
			t.Errorf("Clusters(%v): %v, %d", l, got, e)
		}
		if got, e := x.Clusters(l, nil); e != api.ErrArg || got != nil {
			t.Errorf("Clusters(%v, nil): %v, %d", l, got, e)
		}
	}
	if got, e := y.Clusters(fits, x); e != api.ErrMap || got != nil {
		t.Errorf("the other way: %v, %d", got, e)
	}
	if got, e := made(t).Clusters(nil, nil); e != api.ErrArg || got != nil {
		t.Errorf("nothing to nil: %v, %d", got, e)
	}
}

// P5.3: an index that is nil, or that no call made, has no codes; each of its calls tells ErrArg, whatever it is handed.
func TestNotMade(t *testing.T) {
	for name, x := range map[string]*index.Index{"nil": nil, "zero": {}, "new": new(index.Index)} {
		if x.Codes() != 0 || x.Units() != 0 {
			t.Errorf("%s: %d, %d", name, x.Codes(), x.Units())
		}
		for _, at := range append([]int{0, 1}, far...) {
			if s, e := x.Span(at); e != api.ErrArg || s != (api.Span{}) {
				t.Errorf("%s: Span(%d): %v, %d", name, at, s, e)
			}
			if code, unit, e := x.Code(at); e != api.ErrArg || code != 0 || unit != 0 {
				t.Errorf("%s: Code(%d): %d, %d, %d", name, at, code, unit, e)
			}
			if n, e := x.Break(at); e != api.ErrArg || n != 0 {
				t.Errorf("%s: Break(%d): %d, %d", name, at, n, e)
			}
		}
		for _, l := range [][]api.Cluster{nil, {{}}, cluster.Identity(1)} {
			for _, y := range []*index.Index{nil, {}, x, made(t), made(t, 1)} {
				if got, e := x.Clusters(l, y); e != api.ErrArg || got != nil {
					t.Errorf("%s: Clusters(%v): %v, %d", name, l, got, e)
				}
			}
		}
	}
}

// P5.3: to an index that no call made, which has no codes, there is a map of no codes alone.
func TestClustersToNotMade(t *testing.T) {
	if l, e := made(t).Clusters(nil, &index.Index{}); e != api.OK || len(l) != 0 {
		t.Errorf("of no codes: %v, %d", l, e)
	}
	for _, l := range [][]api.Cluster{nil, {{}}, cluster.Identity(1), {to(0, 1, 0, 0)}} {
		if got, e := made(t, 1).Clusters(l, &index.Index{}); e != api.ErrMap || got != nil {
			t.Errorf("of one code: %v, %d", got, e)
		}
	}
}

// P5.4: Code of each unit of Span is that code; and the spans go through all units.
func TestThereAndBack(t *testing.T) {
	eachSizes(4, 4, func(sizes []int) {
		x := made(t, sizes...)
		end := 0
		for code, size := range sizes {
			s, e := x.Span(code)
			if e != api.OK || s != of(end, end+size) {
				t.Fatalf("%v: Span(%d): %v, %d", sizes, code, s, e)
			}
			for unit := s.Lo; unit < s.Hi; unit++ {
				if c, at, e := x.Code(unit); e != api.OK || c != code || at != unit-s.Lo {
					t.Fatalf("%v: Code(%d): %d, %d, %d", sizes, unit, c, at, e)
				}
			}
			end = s.Hi
		}
		if end != x.Units() || len(sizes) != x.Codes() {
			t.Fatalf("%v: %d, %d", sizes, x.Codes(), x.Units())
		}
	})
}

// R3: what is handed in stays, its spare room too, and is not kept; what is answered is new.
func TestNothingShared(t *testing.T) {
	sizes := []int{1, 2, 3, 9}
	x := made(t, sizes[:3]...)
	if !slices.Equal(sizes, []int{1, 2, 3, 9}) {
		t.Errorf("New: %v", sizes)
	}
	clear(sizes)
	l := append(cluster.Identity(3), to(7, 7, 7, 7))
	was := slices.Clone(l)
	a, _ := x.Clusters(l[:3], x)
	b, _ := x.Clusters(l[:3], x)
	clear(a)
	want := []api.Cluster{to(0, 1, 0, 1), to(1, 3, 1, 3), to(3, 6, 3, 6)}
	if !slices.Equal(b, want) || !slices.Equal(l, was) {
		t.Errorf("Clusters: %v, %v", b, l)
	}
	if s, e := x.Span(2); e != api.OK || s != of(3, 6) || x.Codes() != 3 || x.Units() != 6 {
		t.Errorf("Span(2): %v, %d", s, e)
	}
}
