package layout_test

import (
	"math"
	"slices"
	"testing"

	"naskh/api"
	"naskh/cluster"
	"naskh/layout"
	"naskh/option"
	"naskh/order"
	"naskh/props"
)

// Options that most tests have.
var (
	left   = api.Options{Reorder: true}
	right  = api.Options{Direction: api.DirRight, Reorder: true}
	marked = api.Options{Direction: api.DirRight, Reorder: true, Marks: true}
	shown  = api.Options{Strip: true}
	resize = api.Options{Letters: true, LamAlef: api.LamResize, Reorder: true}
	begin  = api.Options{Letters: true, LamAlef: api.LamBegin}
)

// ways are options of all kinds.
var ways = []api.Options{
	{}, left, right, marked, shown, resize, begin,
	{Direction: api.DirRight, Mirror: true},
	{Direction: api.DirFirstRight, Reorder: true, Marks: true, Mirror: true, Strip: true},
	{Direction: api.DirRight, LamAlef: api.LamResize, Letters: true, Through: true, Reorder: true, Marks: true, Mirror: true, Strip: true},
	{Direction: api.DirFirstLeft, LamAlef: api.LamNear, Letters: true, Through: true, Reorder: true, Mirror: true},
	{LamAlef: api.LamBegin, Letters: true, Pile: true, Reorder: true, Marks: true, Strip: true},
	{Direction: api.DirRight, LamAlef: api.LamEnd, Letters: true, Tashkeel: api.MarkRemove, Reorder: true},
	{Digits: api.DigitContextLeft, Letters: true, Seen: true, Yeh: true, Tashkeel: api.MarkTatweel, Reorder: true, Strip: true},
}

// A oneCase is a text, how it is laid out, and what is to be answered.
type oneCase struct {
	text []int
	o    api.Options
	ends []int
	want api.Result
}

// line is a line in fewer words.
func line(lo, hi int, levels, order []int) api.Line {
	return api.Line{Span: of(lo, hi), Levels: levels, Order: order}
}

// all fails unless Codes answers each case as it is to.
func all(t *testing.T, cases []oneCase) {
	t.Helper()
	p := props.New()
	for _, c := range cases {
		if r, err := layout.Codes(p, c.text, c.o, c.ends...); err != api.OK || !alike(r, c.want) {
			t.Errorf("Codes(%#x, %+v, %d): %+v, %d", c.text, c.o, c.ends, r, err)
		}
		holds(t, p, c.text, c.o, c.ends)
	}
}

// P34.1 to P34.3, by hand: orders, with lines and paragraphs, each of which has its level.
func TestOrders(t *testing.T) {
	all(t, []oneCase{
		{nil, api.Options{}, nil, api.Result{}},
		{[]int{}, shown, []int{}, api.Result{}},
		{[]int{latin}, api.Options{}, nil, api.Result{Codes: []int{latin}, Clusters: ones(1), Shaped: []int{latin}, Bases: []int{0}, Lines: []api.Line{line(0, 1, []int{0}, []int{0})}}},
		{[]int{latin, alef, beh, 0x62}, left, nil, api.Result{Codes: []int{latin, beh, alef, 0x62}, Clusters: []api.Cluster{to(0, 1, 0, 1), to(1, 2, 2, 3), to(2, 3, 1, 2), to(3, 4, 3, 4)},
			Shaped: []int{latin, alef, beh, 0x62}, Bases: []int{0}, Lines: []api.Line{line(0, 4, []int{0, 1, 1, 0}, []int{0, 2, 1, 3})}}},
		{[]int{latin, alef, beh}, api.Options{}, nil, api.Result{Codes: []int{latin, alef, beh}, Clusters: ones(3), Shaped: []int{latin, alef, beh}, Bases: []int{0}, Lines: []api.Line{line(0, 3, []int{0, 1, 1}, []int{0, 1, 2})}}},
		{[]int{bet, space, bet}, left, []int{2}, api.Result{Codes: []int{bet, space, bet}, Clusters: ones(3), Shaped: []int{bet, space, bet}, Bases: []int{0},
			Lines: []api.Line{line(0, 2, []int{1, 0}, []int{0, 1}), line(2, 3, []int{1}, []int{0})}}},
		{[]int{latin, space, bet}, right, []int{2}, api.Result{Codes: []int{space, latin, bet}, Clusters: []api.Cluster{to(0, 1, 1, 2), to(1, 2, 0, 1), to(2, 3, 2, 3)}, Shaped: []int{latin, space, bet}, Bases: []int{1},
			Lines: []api.Line{line(0, 2, []int{2, 1}, []int{1, 0}), line(2, 3, []int{1}, []int{0})}}},
		{[]int{bet, paragraph, latin, beh}, api.Options{Direction: api.DirFirstLeft, Reorder: true}, []int{3}, api.Result{Codes: []int{paragraph, bet, latin, beh}, Clusters: []api.Cluster{to(0, 1, 1, 2), to(1, 2, 0, 1), to(2, 3, 2, 3), to(3, 4, 3, 4)},
			Shaped: []int{bet, paragraph, latin, beh}, Bases: []int{1, 0}, Lines: []api.Line{line(0, 2, []int{1, 1}, []int{1, 0}), line(2, 3, []int{0}, []int{0}), line(3, 4, []int{1}, []int{0})}}},
		{[]int{one, paragraph, one}, api.Options{Direction: api.DirFirstRight}, []int{2}, api.Result{Codes: []int{one, paragraph, one}, Clusters: ones(3), Shaped: []int{one, paragraph, one}, Bases: []int{1, 1},
			Lines: []api.Line{line(0, 2, []int{2, 1}, []int{0, 1}), line(2, 3, []int{2}, []int{0})}}},
		{[]int{carriage, feed, feed}, api.Options{}, []int{1}, api.Result{Codes: []int{carriage, feed, feed}, Clusters: ones(3), Shaped: []int{carriage, feed, feed}, Bases: []int{0, 0},
			Lines: []api.Line{line(0, 1, []int{0}, []int{0}), line(1, 2, []int{0}, []int{0}), line(2, 3, []int{0}, []int{0})}}},
		{[]int{-1, math.MaxInt, alef}, right, nil, api.Result{Codes: []int{alef, math.MaxInt, -1}, Clusters: []api.Cluster{to(0, 1, 2, 3), to(1, 2, 1, 2), to(2, 3, 0, 1)}, Shaped: []int{-1, math.MaxInt, alef}, Bases: []int{1},
			Lines: []api.Line{line(0, 3, []int{1, 1, 1}, []int{2, 1, 0})}}},
	})
}

// P34.1 to P34.3, by hand: letters with their forms, and lines that end among them.
func TestLetters(t *testing.T) {
	all(t, []oneCase{
		{[]int{latin, space, beh, alef, space, 0x62}, api.Options{Letters: true, Reorder: true}, []int{4}, api.Result{Codes: []int{latin, space, 0xFE8E, 0xFE91, space, 0x62}, Clusters: []api.Cluster{to(0, 1, 0, 1), to(1, 2, 1, 2), to(2, 3, 3, 4), to(3, 4, 2, 3), to(4, 5, 4, 5), to(5, 6, 5, 6)},
			Shaped: []int{latin, space, 0xFE91, 0xFE8E, space, 0x62}, Bases: []int{0}, Lines: []api.Line{line(0, 4, []int{0, 0, 1, 1}, []int{0, 1, 3, 2}), line(4, 6, []int{0, 0}, []int{0, 1})}}},
		{[]int{beh, lam, alef}, resize, []int{1}, api.Result{Codes: []int{0xFE91, 0xFEFC}, Clusters: []api.Cluster{to(0, 1, 0, 1), to(1, 3, 1, 2)}, Shaped: []int{0xFE91, 0xFEFC}, Bases: []int{0},
			Lines: []api.Line{line(0, 1, []int{1}, []int{0}), line(1, 2, []int{1}, []int{0})}}},
		{[]int{beh, lam, alef}, resize, nil, api.Result{Codes: []int{0xFEFC, 0xFE91}, Clusters: []api.Cluster{to(0, 1, 1, 2), to(1, 3, 0, 1)}, Shaped: []int{0xFE91, 0xFEFC}, Bases: []int{0}, Lines: []api.Line{line(0, 2, []int{1, 1}, []int{1, 0})}}},
		{[]int{latin, paragraph, lam, alef}, begin, []int{1}, api.Result{Codes: []int{space, latin, paragraph, lamAlef}, Clusters: []api.Cluster{to(0, 1, 0, 2), to(1, 2, 2, 3), to(2, 4, 3, 4)}, Shaped: []int{space, latin, paragraph, lamAlef}, Bases: []int{0, 0},
			Lines: []api.Line{line(0, 2, []int{0, 0}, []int{0, 1}), line(2, 3, []int{0}, []int{0}), line(3, 4, []int{1}, []int{0})}}},
		{[]int{alef, one}, api.Options{Digits: api.DigitToArabic, Reorder: true}, nil, api.Result{Codes: []int{0x661, alef}, Clusters: []api.Cluster{to(0, 1, 1, 2), to(1, 2, 0, 1)}, Shaped: []int{alef, 0x661}, Bases: []int{0}, Lines: []api.Line{line(0, 2, []int{1, 2}, []int{1, 0})}}},
	})
}

// P34.1 to P34.3, by hand: marks behind their base, which are in its cluster, also over lines, but not over paragraphs.
func TestMarks(t *testing.T) {
	one, two := []int{0}, []int{1}
	all(t, []oneCase{
		{[]int{alef, fatha}, marked, nil, api.Result{Codes: []int{alef, fatha}, Clusters: []api.Cluster{to(0, 2, 0, 2)}, Shaped: []int{alef, fatha}, Bases: two, Lines: []api.Line{line(0, 2, []int{1, 1}, []int{0, 1})}}},
		{[]int{alef, fatha}, right, []int{1}, api.Result{Codes: []int{alef, fatha}, Clusters: ones(2), Shaped: []int{alef, fatha}, Bases: two, Lines: []api.Line{line(0, 1, two, one), line(1, 2, two, one)}}},
		{[]int{alef, fatha}, right, nil, api.Result{Codes: []int{fatha, alef}, Clusters: []api.Cluster{to(0, 1, 1, 2), to(1, 2, 0, 1)}, Shaped: []int{alef, fatha}, Bases: two, Lines: []api.Line{line(0, 2, []int{1, 1}, []int{1, 0})}}},
		{[]int{fatha, alef, fatha, shadda, beh}, marked, []int{1, 4}, api.Result{Codes: []int{fatha, alef, fatha, shadda, beh}, Clusters: []api.Cluster{to(0, 1, 0, 1), to(1, 4, 1, 4), to(4, 5, 4, 5)}, Shaped: []int{fatha, alef, fatha, shadda, beh}, Bases: two,
			Lines: []api.Line{line(0, 1, two, one), line(1, 4, []int{1, 1, 1}, []int{0, 1, 2}), line(4, 5, two, one)}}},
		{[]int{latin, paragraph, fatha, fatha}, api.Options{Reorder: true, Marks: true}, []int{2}, api.Result{Codes: []int{latin, paragraph, fatha, fatha}, Clusters: []api.Cluster{to(0, 1, 0, 1), to(1, 2, 1, 2), to(2, 4, 2, 4)}, Shaped: []int{latin, paragraph, fatha, fatha}, Bases: []int{0, 0},
			Lines: []api.Line{line(0, 2, []int{0, 0}, []int{0, 1}), line(2, 4, []int{0, 0}, []int{0, 1})}}},
		{[]int{carriage, feed, fatha, carriage, fatha}, marked, nil, api.Result{Codes: []int{feed, carriage, carriage, fatha, fatha}, Clusters: []api.Cluster{to(0, 1, 1, 2), to(1, 2, 0, 1), to(2, 3, 3, 4), to(3, 4, 2, 3), to(4, 5, 4, 5)}, Shaped: []int{carriage, feed, fatha, carriage, fatha}, Bases: []int{1, 1, 1},
			Lines: []api.Line{line(0, 2, []int{1, 1}, []int{1, 0}), line(2, 4, []int{1, 1}, []int{1, 0}), line(4, 5, two, one)}}},
		{[]int{lam, alef, fatha, fatha}, api.Options{Direction: api.DirRight, Letters: true, LamAlef: api.LamBegin, Reorder: true, Marks: true}, nil, api.Result{Codes: []int{lamAlef, fatha, fatha, space}, Clusters: []api.Cluster{to(0, 4, 0, 4)}, Shaped: []int{space, lamAlef, fatha, fatha}, Bases: two,
			Lines: []api.Line{line(0, 4, []int{1, 1, 1, 1}, []int{1, 2, 3, 0})}}},
		{[]int{toRight, fatha, alef}, api.Options{Direction: api.DirRight, Reorder: true, Marks: true, Strip: true}, nil, api.Result{Codes: []int{alef, fatha}, Clusters: []api.Cluster{to(0, 2, 1, 2), to(2, 3, 0, 1)}, Shaped: []int{toRight, fatha, alef}, Bases: two,
			Lines: []api.Line{line(0, 3, []int{1, 1, 1}, []int{2, 0, 1})}}},
	})
}

// P34.2, P34.3, by hand: what is mirrored, with orders and without, and controls that go.
func TestMirrorAndStrip(t *testing.T) {
	mirrored := api.Options{Direction: api.DirRight, Mirror: true}
	both := api.Options{Reorder: true, Strip: true}
	all(t, []oneCase{
		{[]int{'(', bet}, mirrored, nil, api.Result{Codes: []int{')', bet}, Clusters: ones(2), Shaped: []int{'(', bet}, Bases: []int{1}, Lines: []api.Line{line(0, 2, []int{1, 1}, []int{0, 1})}}},
		{[]int{'(', bet}, right, nil, api.Result{Codes: []int{bet, '('}, Clusters: []api.Cluster{to(0, 1, 1, 2), to(1, 2, 0, 1)}, Shaped: []int{'(', bet}, Bases: []int{1}, Lines: []api.Line{line(0, 2, []int{1, 1}, []int{1, 0})}}},
		{[]int{alef, '(', latin, ')'}, api.Options{Direction: api.DirRight, Reorder: true, Mirror: true}, nil, api.Result{Codes: []int{'(', latin, ')', alef}, Clusters: []api.Cluster{to(0, 1, 3, 4), to(1, 2, 2, 3), to(2, 3, 1, 2), to(3, 4, 0, 1)}, Shaped: []int{alef, '(', latin, ')'}, Bases: []int{1},
			Lines: []api.Line{line(0, 4, []int{1, 1, 2, 1}, []int{3, 2, 1, 0})}}},
		{[]int{bet, '<', bet, '<'}, api.Options{Mirror: true}, nil, api.Result{Codes: []int{bet, '>', bet, '<'}, Clusters: ones(4), Shaped: []int{bet, '<', bet, '<'}, Bases: []int{0}, Lines: []api.Line{line(0, 4, []int{1, 1, 1, 0}, []int{0, 1, 2, 3})}}},
		{[]int{latin, toRight, 0x62}, shown, nil, api.Result{Codes: []int{latin, 0x62}, Clusters: []api.Cluster{to(0, 2, 0, 1), to(2, 3, 1, 2)}, Shaped: []int{latin, toRight, 0x62}, Bases: []int{0}, Lines: []api.Line{line(0, 3, []int{0, 1, 0}, []int{0, 1, 2})}}},
		{[]int{toRight, latin}, shown, []int{1}, api.Result{Codes: []int{latin}, Clusters: []api.Cluster{to(0, 2, 0, 1)}, Shaped: []int{toRight, latin}, Bases: []int{0}, Lines: []api.Line{line(0, 1, []int{1}, []int{0}), line(1, 2, []int{0}, []int{0})}}},
		{[]int{toRight, latin}, api.Options{}, nil, api.Result{Codes: []int{toRight, latin}, Clusters: ones(2), Shaped: []int{toRight, latin}, Bases: []int{0}, Lines: []api.Line{line(0, 2, []int{1, 0}, []int{0, 1})}}},
		{[]int{bet, toRight, 0x5D1}, both, nil, api.Result{Codes: []int{0x5D1, bet}, Clusters: []api.Cluster{to(0, 2, 1, 2), to(2, 3, 0, 1)}, Shaped: []int{bet, toRight, 0x5D1}, Bases: []int{0}, Lines: []api.Line{line(0, 3, []int{1, 1, 1}, []int{2, 1, 0})}}},
		{[]int{lam, alef, toRight, lam, alef}, api.Options{Letters: true, LamAlef: api.LamNear, Reorder: true, Strip: true}, nil, api.Result{Codes: []int{lamAlef, space, lamAlef, space}, Clusters: []api.Cluster{to(0, 5, 0, 4)}, Shaped: []int{lamAlef, space, toRight, lamAlef, space}, Bases: []int{0},
			Lines: []api.Line{line(0, 5, []int{1, 1, 1, 1, 0}, []int{3, 2, 1, 0, 4})}}},
	})
}

// P34.1 to P34.3, P34.5: every text of up to four of these, in each way, with all breaks.
func TestEveryShortText(t *testing.T) {
	p := props.New()
	for n := range 5 {
		each(n, []int{latin, alef, lam, fatha, '(', toRight, paragraph}, func(text []int) {
			for _, o := range ways {
				cuts(n, func(ends []int) { holds(t, p, text, o, ends) })
			}
		})
	}
}

// P34.1 to P34.3, P34.5: every text of up to three of these others, in each way, with all breaks.
func TestEveryOtherText(t *testing.T) {
	p := props.New()
	for n := range 4 {
		each(n, []int{latin, one, space, bet, beh, yeh, shadda, 0x64F, isolate, ended, carriage, feed, lamAlef, ill, -1}, func(text []int) {
			for _, o := range ways {
				cuts(n, func(ends []int) { holds(t, p, text, o, ends) })
			}
		})
	}
}

// P34.1 to P34.3: of the options that there may be some, of all kinds.
func TestEveryOptions(t *testing.T) {
	p := props.New()
	text := []int{one, beh, lam, shadda, 0x64F, alef, '(', latin, ')', fatha, toRight, paragraph, lamAlef, seen, fatha, yeh, space, lam, alef}
	for bits := 0; bits < 500*1024; bits += 7 {
		if o, err := option.Of(bits); err == api.OK {
			holds(t, p, text, o, []int{2, 7, 12, 16})
		}
	}
}

// P34.1 to P34.3, P34.5: longer texts in each way.
func TestLongTexts(t *testing.T) {
	p := props.New()
	codes := []int{latin, latin, one, space, bet, alef, beh, lam, lam, alef, fatha, fatha, shadda, '(', ')', isolate, ended, 0x202B, 0x202C, toRight, lamAlef, 0x661, ','}
	for seed := range uint64(1500) {
		text := numbers(10+int(seed)%50, len(codes)+int(seed)%2, seed)
		for at, which := range text {
			text[at] = append(codes, paragraph)[which]
		}
		var ends []int
		for end := 1 + int(seed)%7; end < len(text); end += 3 + int(seed)%11 {
			ends = append(ends, end)
		}
		for _, o := range ways {
			holds(t, p, text, o, nil)
			if r, err := holds(t, p, text, o, ends); err == api.OK {
				follows(t, r, len(text))
			}
		}
	}
}

// follows fails unless what follows from the promises is so (P34.5, P4).
func follows(t *testing.T, r api.Result, n int) {
	t.Helper()
	if !cluster.Check(r.Clusters, n, len(r.Codes)) {
		t.Fatalf("no map of %d to %d: %v", n, len(r.Codes), r.Clusters)
	}
	for _, l := range r.Lines {
		if !order.Permutes(l.Order) || len(l.Order) != l.Hi-l.Lo || len(l.Levels) != l.Hi-l.Lo || slices.Max(l.Levels) > api.MaxLevel {
			t.Fatalf("no line: %v", l)
		}
	}
}

// P34.6: codes that go from the left are seen as they are.
func TestFromTheLeft(t *testing.T) {
	p := props.New()
	for n := range 5 {
		each(n, []int{latin, 0x62, 0x3B1, 0x4E00, 0x10000, 0x1F1E6}, func(text []int) {
			for _, o := range []api.Options{{}, left, {Mirror: true}, {Reorder: true, Marks: true, Mirror: true}, {Direction: api.DirFirstLeft, Reorder: true, Mirror: true}} {
				cuts(n, func(ends []int) {
					if r, err := layout.Codes(p, text, o, ends...); err != api.OK || !slices.Equal(r.Codes, text) || !slices.Equal(r.Shaped, text) || !slices.Equal(r.Clusters, ones(n)) {
						t.Fatalf("Codes(%#x, %+v, %d): %+v, %d", text, o, ends, r, err)
					}
				})
			}
		})
	}
}

// refused fails unless Codes refuses a text as it is to.
func refused(t *testing.T, text []int, o api.Options, want api.Errno, ends ...int) {
	t.Helper()
	if r, err := layout.Codes(props.New(), text, o, ends...); err != want || !empty(r) {
		t.Errorf("Codes of %d, %+v, %d: %d lines, %d, not %d", len(text), o, ends, len(r.Lines), err, want)
	}
}

// empty says whether a result is zero.
func empty(r api.Result) bool {
	return r.Codes == nil && r.Clusters == nil && r.Shaped == nil && r.Bases == nil && r.Lines == nil
}

// P34.1, P34.3: what is refused; which error is first.
func TestRefused(t *testing.T) {
	long := slices.Repeat([]int{latin}, api.MaxText+1)
	wrong, unlike := api.Options{Direction: 4, LamAlef: api.LamNear}, api.Options{LamAlef: api.LamNear}
	remove := api.Options{Letters: true, Tashkeel: api.MarkRemove, Strip: true}
	through := api.Options{Letters: true, LamAlef: api.LamResize, Strip: true}
	refused(t, long, wrong, api.ErrArg, 2, 2)
	refused(t, long, unlike, api.ErrOption, 2, 2)
	refused(t, nil, api.Options{Marks: true}, api.ErrOption)
	refused(t, nil, api.Options{Digits: -1}, api.ErrArg)
	refused(t, long, api.Options{}, api.ErrLong, 2, 2)
	refused(t, long, remove, api.ErrLong)
	refused(t, long[:api.MaxText], api.Options{}, api.ErrBreak, 2, 2)
	for _, ends := range [][]int{{0}, {3}, {-1}, {4}, {1, 1}, {2, 1}, {1, 3}, {1, 2, 2}, {math.MinInt}, {math.MaxInt}} {
		refused(t, []int{fatha, fatha, fatha}, remove, api.ErrBreak, ends...)
		refused(t, []int{latin, latin, latin}, api.Options{}, api.ErrBreak, ends...)
	}
	refused(t, nil, api.Options{}, api.ErrBreak, 0)
	refused(t, nil, api.Options{}, api.ErrBreak, 1)
	refused(t, []int{latin}, api.Options{}, api.ErrBreak, 1)
	refused(t, []int{fatha, fatha}, remove, api.ErrAllRemoved, 1)
	refused(t, []int{lam, alef}, through, api.ErrSplit, 1)
	refused(t, []int{latin, lam, alef}, through, api.ErrSplit, 1, 2)
	refused(t, []int{latin, fatha}, marked, api.ErrSplit, 1)
	refused(t, []int{toRight, fatha}, marked, api.ErrSplit, 1)
	refused(t, []int{toRight, 0x200B}, api.Options{Reorder: true, Strip: true}, api.ErrAllRemoved, 1)
	refused(t, []int{toRight}, shown, api.ErrAllRemoved)
	refused(t, []int{isolate, ended}, shown, api.ErrAllRemoved)
	refused(t, []int{seen, space}, api.Options{Letters: true, Seen: true, Direction: -1}, api.ErrArg)
}

// P34.1: more codes than a map may have come out: what shape says.
func TestMoreThanAMapHas(t *testing.T) {
	text := slices.Repeat([]int{lamAlef}, api.MaxText/2+1)
	refused(t, text, api.Options{Letters: true}, api.ErrLong)
	refused(t, text, api.Options{Letters: true}, api.ErrLong, 1)
}

// R1: what New did not make knows nothing, and nothing panics.
func TestPropsThatNoCallMade(t *testing.T) {
	for _, p := range []*props.Props{nil, {}} {
		for _, o := range ways {
			text := []int{lam, fatha, alef, '(', toRight, paragraph, one}
			if r, err := layout.Codes(p, text, o, 3); err == api.OK && !cluster.Check(r.Clusters, len(text), len(r.Codes)) {
				t.Error("no map", r.Clusters)
			}
		}
	}
}

// lists tells all lists of numbers of a result.
func lists(r api.Result) [][]int {
	l := [][]int{r.Codes, r.Shaped, r.Bases}
	for _, line := range r.Lines {
		l = append(l, line.Levels, line.Order)
	}
	return l
}

// R3: what is answered is one's own, no list shares with another one, and what was given is as it was.
func TestOwnMemory(t *testing.T) {
	p := props.New()
	room, endRoom := []int{alef, fatha, '(', paragraph, toRight, latin, 77, 77}, []int{2, 5, 77, 77}
	text, ends := room[:6], endRoom[:2]
	for _, o := range ways {
		r, err := layout.Codes(p, text, o, ends...)
		if err != api.OK {
			continue
		}
		all := lists(r)
		for which, list := range all {
			was := slices.Clone(list)
			var others [][]int
			for _, other := range all {
				others = append(others, slices.Clone(other))
			}
			list = list[:cap(list)]
			for at := range list {
				list[at] = -99
			}
			for other := range all {
				if other != which && !slices.Equal(all[other], others[other]) {
					t.Errorf("%+v: list %d is changed with %d", o, other, which)
				}
			}
			copy(all[which], was)
		}
		for _, list := range all {
			clear(list)
		}
		clear(r.Clusters[:cap(r.Clusters)])
		clear(r.Lines[:cap(r.Lines)])
		holds(t, p, text, o, ends)
	}
	if !slices.Equal(room, []int{alef, fatha, '(', paragraph, toRight, latin, 77, 77}) || !slices.Equal(endRoom, []int{2, 5, 77, 77}) {
		t.Error("what was given is not what it was", room, endRoom)
	}
}

// A text of MaxText, turned round.
func TestMaxText(t *testing.T) {
	const n = api.MaxText
	r, err := layout.Codes(props.New(), slices.Repeat([]int{alef, '('}, n/2), api.Options{Direction: api.DirRight, Reorder: true, Mirror: true}, n/2)
	if err != api.OK || len(r.Codes) != n || len(r.Clusters) != n || len(r.Lines) != 2 {
		t.Fatal(err, len(r.Codes), len(r.Clusters), len(r.Lines))
	}
	for at, c := range r.Clusters {
		line := at / (n / 2) * (n / 2)
		where := line + n/2 - 1 - (at - line)
		if c != to(at, at+1, where, where+1) || r.Codes[where] != []int{alef, ')'}[at%2] {
			t.Fatal("place", at, c, r.Codes[where])
		}
	}
}
