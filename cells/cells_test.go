package cells_test

import (
	"math"
	"slices"
	"testing"

	"naskh/api"
	"naskh/cells"
)

// of is a span in fewer words.
func of(lo, hi int) api.Span { return api.Span{Lo: lo, Hi: hi} }

// to is a cluster in fewer words.
func to(a, b, c, d int) api.Cluster { return api.Cluster{In: of(a, b), Out: of(c, d)} }

// far are numbers that are no place of any text here.
var far = []int{-1, -2, math.MinInt, math.MinInt + 1, 1 << 32, math.MaxInt - 1, math.MaxInt}

// dice tells numbers that look like any, the same in every run.
type dice struct{ last uint32 }

// below tells a number from 0 on, below n.
func (d *dice) below(n int) int {
	d.last = d.last*1664525 + 1013904223
	return int(d.last>>8) % n
}

// codes tells up to three codes.
func (d *dice) codes() []int {
	var l []int
	for range d.below(4) {
		l = append(l, d.below(100)-10)
	}
	return l
}

// made tells cells, or ends the test.
func made(t *testing.T, n int) *cells.Cells {
	t.Helper()
	c, err := cells.New(n)
	if err != api.OK || c == nil {
		t.Fatalf("New(%d): %v, %d", n, c, err)
	}
	return c
}

// filled tells cells that have these codes, of which these are joined.
func filled(t *testing.T, codes [][]int, together ...api.Span) *cells.Cells {
	t.Helper()
	c := made(t, len(codes))
	for at, l := range codes {
		if err := c.Set(at, l...); err != api.OK {
			t.Fatalf("Set(%d, %d): %d", at, l, err)
		}
	}
	for _, s := range together {
		if err := c.Join(s); err != api.OK {
			t.Fatalf("Join(%v): %d", s, err)
		}
	}
	return c
}

// mapped tells what Clusters is to answer, by a way of its own: cells are taken one by one, and go on with what is ahead of them, if a span that was joined says so, if they have no codes, or if none ahead has.
func mapped(codes [][]int, together []api.Span) ([]api.Cluster, api.Errno) {
	var l []api.Cluster
	some := false
	for lo := 0; lo < len(codes); {
		hi := lo + 1
		for i := 0; i < len(together); i++ {
			if s := together[i]; s.Lo < hi && s.Hi > hi {
				hi, i = s.Hi, -1
			}
		}
		group := 0
		for _, c := range codes[lo:hi] {
			group += len(c)
		}
		switch last := len(l) - 1; {
		case last < 0:
			l = append(l, to(lo, hi, 0, group))
		case group == 0 || !some:
			l[last].In.Hi = hi
			l[last].Out.Hi += group
		default:
			l = append(l, to(lo, hi, l[last].Out.Hi, l[last].Out.Hi+group))
		}
		some = some || group > 0
		lo = hi
	}
	if len(codes) > 0 && !some {
		return nil, api.ErrAllRemoved
	}
	return l, api.OK
}

// holds fails unless cells have these codes, and clusters as these spans joined say.
func holds(t *testing.T, c *cells.Cells, codes [][]int, together ...api.Span) {
	t.Helper()
	for at, want := range codes {
		if got := c.At(at); !slices.Equal(got, want) {
			t.Fatalf("At(%d) of %d: %d", at, codes, got)
		}
	}
	for _, at := range append([]int{len(codes), len(codes) + 1}, far...) {
		if got := c.At(at); len(got) != 0 {
			t.Fatalf("At(%d) of %d: %d", at, codes, got)
		}
	}
	if got := c.Text(); !slices.Equal(got, slices.Concat(codes...)) {
		t.Fatalf("Text of %d: %d", codes, got)
	}
	want, err := mapped(codes, together)
	if got, e := c.Clusters(); e != err || !slices.Equal(got, want) {
		t.Fatalf("Clusters of %d, joined %v: %v, %d, not %v, %d", codes, together, got, e, want, err)
	}
}

// refused fails unless each call is refused, of cells that have none.
func refused(t *testing.T, c *cells.Cells) {
	t.Helper()
	for _, at := range append([]int{0, 1}, far...) {
		if err := c.Set(at, 7); err != api.ErrArg {
			t.Errorf("Set(%d): %d", at, err)
		}
		if err := c.Set(at); err != api.ErrArg {
			t.Errorf("Set(%d) to nothing: %d", at, err)
		}
	}
	for _, err := range []api.Errno{c.Ahead(7), c.Ahead(), c.Behind(7), c.Behind(), c.Join(of(0, 1)), c.Join(api.Span{}), c.Join(of(-1, 0)), c.Join(of(0, math.MaxInt))} {
		if err != api.ErrArg {
			t.Errorf("not refused: %d", err)
		}
	}
	holds(t, c, nil)
}

// P12.1: New, at its edges.
func TestNew(t *testing.T) {
	for _, n := range append([]int{api.MaxText + 1}, far...) {
		if c, err := cells.New(n); c != nil || err != api.ErrArg {
			t.Errorf("New(%d): %v, %d", n, c, err)
		}
	}
	for n := range 5 {
		holds(t, made(t, n), make([][]int, n))
	}
	c := made(t, api.MaxText)
	if err := c.Set(api.MaxText-1, 7); err != api.OK {
		t.Error(err)
	}
	if err := c.Set(api.MaxText, 7); err != api.ErrArg {
		t.Error(err)
	}
	if err := c.Join(of(0, api.MaxText+1)); err != api.ErrArg {
		t.Error(err)
	}
	if got := c.Text(); !slices.Equal(got, []int{7}) || !slices.Equal(c.At(api.MaxText-1), []int{7}) {
		t.Errorf("%d codes", len(got))
	}
}

// P12.1, P12.2: cells that are nil, that no call made, or that are none at all.
func TestNoCells(t *testing.T) {
	var none *cells.Cells
	refused(t, none)
	refused(t, &cells.Cells{})
	refused(t, new(cells.Cells))
	refused(t, made(t, 0))
}

// P12.1: Set gives a cell these codes, and takes what it had; a cell that there is not is refused, and nothing is changed.
func TestSet(t *testing.T) {
	c := filled(t, [][]int{{1}, {2, 3}, {}, {4}})
	holds(t, c, [][]int{{1}, {2, 3}, {}, {4}})
	for _, at := range append([]int{4, 5}, far...) {
		if err := c.Set(at, 9); err != api.ErrArg {
			t.Errorf("Set(%d): %d", at, err)
		}
	}
	holds(t, c, [][]int{{1}, {2, 3}, {}, {4}})
	c.Set(1, 5)
	c.Set(2, 6, 7, 8)
	c.Set(3)
	holds(t, c, [][]int{{1}, {5}, {6, 7, 8}, {}})
	c.Set(0, math.MinInt, -1, 0, api.MaxCode, api.IllBase, math.MaxInt)
	holds(t, c, [][]int{{math.MinInt, -1, 0, api.MaxCode, api.IllBase, math.MaxInt}, {5}, {6, 7, 8}, {}})
}

// P12.1: Ahead and Behind grow the first cell and the last one, in the order of the codes, again and again, till they are set anew.
func TestAheadAndBehind(t *testing.T) {
	c := filled(t, [][]int{{1}, {2}, {3}})
	c.Ahead(4, 5)
	holds(t, c, [][]int{{4, 5, 1}, {2}, {3}})
	c.Ahead(6)
	c.Ahead()
	holds(t, c, [][]int{{6, 4, 5, 1}, {2}, {3}})
	c.Behind(7, 8)
	c.Behind()
	c.Behind(9)
	holds(t, c, [][]int{{6, 4, 5, 1}, {2}, {3, 7, 8, 9}})
	c.Set(0, 0)
	c.Set(2)
	holds(t, c, [][]int{{0}, {2}, {}})
	c.Ahead(1)
	c.Behind(3)
	holds(t, c, [][]int{{1, 0}, {2}, {3}})
}

// P12.1: one cell is the first one and the last one; a cell without codes grows, too.
func TestOneCell(t *testing.T) {
	c := made(t, 1)
	c.Behind(1)
	c.Ahead(2)
	c.Behind(3, 4)
	c.Ahead(5, 6)
	holds(t, c, [][]int{{5, 6, 2, 1, 3, 4}})
	c.Set(0)
	holds(t, c, [][]int{{}})
	c.Ahead(1)
	holds(t, c, [][]int{{1}})
}

// P12.1: Join refuses what is not right, or ends behind the cells, and then holds nothing.
func TestJoin(t *testing.T) {
	codes := [][]int{{1}, {2}, {3}}
	c := filled(t, codes)
	for _, s := range []api.Span{
		{}, of(1, 1), of(2, 1), of(3, 3), of(0, 4), of(2, 4), of(3, 4), of(4, 5), of(-1, 1), of(-1, 3), of(-2, -1), of(0, -1),
		of(math.MinInt, math.MaxInt), of(0, math.MaxInt), of(math.MaxInt, math.MinInt), of(math.MinInt, 3), of(1<<32, 1<<32+2),
	} {
		if err := c.Join(s); err != api.ErrArg {
			t.Errorf("Join(%v): %d", s, err)
		}
	}
	holds(t, c, codes)
	for _, s := range []api.Span{of(0, 1), of(1, 2), of(2, 3)} {
		if err := c.Join(s); err != api.OK {
			t.Errorf("Join(%v): %d", s, err)
		}
	}
	holds(t, c, codes)
	if err := c.Join(of(1, 3)); err != api.OK {
		t.Error(err)
	}
	holds(t, c, codes, of(1, 3))
}

// P12.2: Clusters, by hand: cells without codes belong to those ahead, or to the first ones; joined ones to one another.
func TestClusters(t *testing.T) {
	for _, c := range []struct {
		codes    [][]int
		together []api.Span
		want     []api.Cluster
		err      api.Errno
	}{
		{nil, nil, nil, api.OK},
		{[][]int{{}}, nil, nil, api.ErrAllRemoved}, {[][]int{{}, {}}, []api.Span{of(0, 2)}, nil, api.ErrAllRemoved},
		{[][]int{{7}}, nil, []api.Cluster{to(0, 1, 0, 1)}, api.OK},
		{[][]int{{}, {7, 8}}, nil, []api.Cluster{to(0, 2, 0, 2)}, api.OK},
		{[][]int{{7, 8}, {}}, nil, []api.Cluster{to(0, 2, 0, 2)}, api.OK},
		{[][]int{{}, {}, {1}, {}, {2, 3}, {}}, nil, []api.Cluster{to(0, 4, 0, 1), to(4, 6, 1, 3)}, api.OK},
		{[][]int{{1}, {2}, {3}, {4}}, []api.Span{of(1, 3)}, []api.Cluster{to(0, 1, 0, 1), to(1, 3, 1, 3), to(3, 4, 3, 4)}, api.OK},
		{[][]int{{1}, {2}, {3}, {4}}, []api.Span{of(1, 3), of(2, 4)}, []api.Cluster{to(0, 1, 0, 1), to(1, 4, 1, 4)}, api.OK},
		{[][]int{{1}, {2}, {3}, {4}}, []api.Span{of(0, 2), of(2, 4)}, []api.Cluster{to(0, 2, 0, 2), to(2, 4, 2, 4)}, api.OK},
		{[][]int{{1}, {2}, {}, {4}}, []api.Span{of(2, 4)}, []api.Cluster{to(0, 1, 0, 1), to(1, 2, 1, 2), to(2, 4, 2, 3)}, api.OK},
		{[][]int{{1}, {2}, {}, {}, {4}}, []api.Span{of(2, 4)}, []api.Cluster{to(0, 1, 0, 1), to(1, 4, 1, 2), to(4, 5, 2, 3)}, api.OK},
		{[][]int{{}, {}, {3}, {4}}, []api.Span{of(0, 2)}, []api.Cluster{to(0, 3, 0, 1), to(3, 4, 1, 2)}, api.OK},
		{[][]int{{1}, {}, {3}}, []api.Span{of(0, 3), of(0, 2)}, []api.Cluster{to(0, 3, 0, 2)}, api.OK},
		{[][]int{{1}, {}, {3}}, []api.Span{of(0, 2), of(0, 3)}, []api.Cluster{to(0, 3, 0, 2)}, api.OK},
	} {
		x := filled(t, c.codes, c.together...)
		if got, err := x.Clusters(); err != c.err || !slices.Equal(got, c.want) {
			t.Errorf("%d, joined %v: %v, %d", c.codes, c.together, got, err)
		}
		holds(t, x, c.codes, c.together...)
	}
}

// P12.2: what stands ahead and behind belongs to the first cell and to the last one.
func TestClustersAheadAndBehind(t *testing.T) {
	c := filled(t, [][]int{{}, {2}, {}})
	c.Ahead(8, 9)
	c.Behind(7)
	if got, err := c.Clusters(); err != api.OK || !slices.Equal(got, []api.Cluster{to(0, 1, 0, 2), to(1, 2, 2, 3), to(2, 3, 3, 4)}) {
		t.Error(got, err)
	}
	c.Set(0)
	c.Set(2)
	if got, err := c.Clusters(); err != api.OK || !slices.Equal(got, []api.Cluster{to(0, 3, 0, 1)}) {
		t.Error(got, err)
	}
}

// P12.1 to P12.3: up to four cells with none to two codes each, and every two spans joined.
func TestEach(t *testing.T) {
	for n := range 5 {
		var spans []api.Span
		for lo := range n {
			for hi := lo + 1; hi <= n; hi++ {
				spans = append(spans, of(lo, hi))
			}
		}
		all := 1
		for range n {
			all *= 3
		}
		for which := range all {
			codes := make([][]int, n)
			for at := range codes {
				codes[at] = []int{at, 10 + at}[:which%3]
				which /= 3
			}
			holds(t, filled(t, codes), codes)
			for _, a := range spans {
				for _, b := range spans {
					holds(t, filled(t, codes, a, b), codes, a, b)
				}
			}
		}
	}
}

// P12.1 to P12.3: all calls in any order, refused ones among them, against lists of codes.
func TestAnyOrder(t *testing.T) {
	d := &dice{1}
	for range 2000 {
		n := 1 + d.below(8)
		c, codes, together := made(t, n), make([][]int, n), []api.Span(nil)
		for range d.below(20) {
			l := d.codes()
			at, hi := d.below(n+2)-1, d.below(n+2)
			within, err := at >= 0 && at < n, api.OK
			switch what := d.below(4); {
			case what == 0:
				if err = c.Set(at, l...); within {
					codes[at] = l
				}
			case what == 1:
				within, err = true, c.Ahead(l...)
				codes[0] = slices.Concat(l, codes[0])
			case what == 2:
				within, err = true, c.Behind(l...)
				codes[n-1] = slices.Concat(codes[n-1], l)
			default:
				within, err = within && hi > at && hi <= n, c.Join(of(at, hi))
				if within {
					together = append(together, of(at, hi))
				}
			}
			if within != (err == api.OK) || !within && err != api.ErrArg {
				t.Fatalf("%d of %d cells, %v: %d", at, n, within, err)
			}
			holds(t, c, codes, together...)
		}
	}
}

// R3: what is handed in is neither kept nor changed, its spare room included, and what is told may be changed.
func TestOwnMemory(t *testing.T) {
	want := [][]int{{4, 5, 1, 2}, {3}, {6, 7, 8}}
	c := made(t, 3)
	room := []int{1, 2, 9, 9, 4, 5, 9, 9, 6, 7, 9, 9, 8, 9, 9}
	c.Set(0, room[:2]...)
	c.Set(1, 3)
	c.Ahead(room[4:6]...)
	c.Set(2, room[8:10]...)
	c.Behind(room[12:13]...)
	holds(t, c, want)
	if !slices.Equal(room, []int{1, 2, 9, 9, 4, 5, 9, 9, 6, 7, 9, 9, 8, 9, 9}) {
		t.Errorf("changed: %d", room)
	}
	for i := range room {
		room[i] = 0
	}
	holds(t, c, want)
	for _, l := range [][]int{c.At(0), c.At(1), c.At(2), c.Text()} {
		l = l[:cap(l)]
		for i := range l {
			l[i] = 0
		}
	}
	if l, err := c.Clusters(); err == api.OK {
		l[0] = to(0, 3, 0, 8)
	}
	holds(t, c, want)
	c.Set(0, c.At(0)...)
	holds(t, c, want)
	c.Ahead(c.At(0)...)
	holds(t, c, [][]int{{4, 5, 1, 2, 4, 5, 1, 2}, {3}, {6, 7, 8}})
}

// Cells of their own share nothing.
func TestApart(t *testing.T) {
	a, b := filled(t, [][]int{{1}, {2}}), filled(t, [][]int{{3}, {4}})
	a.Ahead(5)
	b.Behind(6)
	a.Join(of(0, 2))
	holds(t, a, [][]int{{5, 1}, {2}}, of(0, 2))
	holds(t, b, [][]int{{3}, {4, 6}})
}

// P12.1: a cell grows by many calls, one code each, ahead and behind, and is joined by as many.
func TestManyCalls(t *testing.T) {
	const many = 1 << 20
	c := made(t, 3)
	for i := range many {
		if c.Ahead(-i) != api.OK || c.Behind(i) != api.OK || c.Join(of(1, 2+i%2)) != api.OK {
			t.Fatal(i)
		}
	}
	text := c.Text()
	if len(text) != 2*many {
		t.Fatal(len(text))
	}
	for i := range many {
		if text[i] != i+1-many || text[many+i] != i {
			t.Fatal(i, text[i], text[many+i])
		}
	}
	if l, err := c.Clusters(); err != api.OK || !slices.Equal(l, []api.Cluster{to(0, 1, 0, many), to(1, 3, many, 2*many)}) {
		t.Error(l, err)
	}
}

// P12.2: many cells, of which each second one has no codes, and some are joined.
func TestManyCells(t *testing.T) {
	const many = 1 << 17
	c := made(t, 4*many)
	for i := range many {
		c.Set(4*i, i, i)
		c.Set(4*i+2, i)
		if i%2 == 1 {
			c.Join(of(4*i, 4*i+3))
		}
	}
	var want []api.Cluster
	for i := range many {
		if i%2 == 1 {
			want = append(want, to(4*i, 4*i+4, 3*i, 3*i+3))
		} else {
			want = append(want, to(4*i, 4*i+2, 3*i, 3*i+2), to(4*i+2, 4*i+4, 3*i+2, 3*i+3))
		}
	}
	if l, err := c.Clusters(); err != api.OK || !slices.Equal(l, want) {
		t.Error(len(l), err)
	}
}

// P12.2: as many codes as a text may have, and one more, of which there is a text, but no map (P4.2).
func TestManyCodes(t *testing.T) {
	c := made(t, 2)
	c.Set(0, make([]int, api.MaxText-1)...)
	c.Behind(1)
	if l, err := c.Clusters(); err != api.OK || !slices.Equal(l, []api.Cluster{to(0, 1, 0, api.MaxText-1), to(1, 2, api.MaxText-1, api.MaxText)}) {
		t.Error(l, err)
	}
	c.Behind(2)
	if l, err := c.Clusters(); err != api.ErrArg || len(l) != 0 {
		t.Error(l, err)
	}
	if text := c.Text(); len(text) != api.MaxText+1 || text[api.MaxText] != 2 || len(c.At(0)) != api.MaxText-1 {
		t.Error(len(text))
	}
}
