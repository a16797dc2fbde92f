package breaks_test

import (
	"math"
	"slices"
	"testing"

	"naskh/api"
	"naskh/breaks"
	"naskh/cluster"
	"naskh/span"
)

// each calls f with every list of n of these.
func each(n int, items []int, f func(list []int)) {
	all := 1
	for range n {
		all *= len(items)
	}
	for which := range all {
		list := make([]int, n)
		for at := range list {
			list[at] = items[which%len(items)]
			which /= len(items)
		}
		f(list)
	}
}

// numbers tells n numbers below limit that look as if they were drawn, always the same ones.
func numbers(n, limit int, seed uint64) []int {
	list := make([]int, n)
	for at := range list {
		seed = seed*6364136223846793005 + 1442695040888963407
		list[at] = int(seed>>33) % limit
	}
	return list
}

// upTo tells the numbers from lo to hi.
func upTo(lo, hi int) []int {
	var list []int
	for ; lo <= hi; lo++ {
		list = append(list, lo)
	}
	return list
}

// lists tells every list of n at most of these.
func lists(n int, items []int) [][]int {
	var all [][]int
	for size := range n + 1 {
		each(size, items, func(list []int) { all = append(all, list) })
	}
	return all
}

// spans tells the spans between each two of these that stand behind one another.
func spans(ends ...int) []api.Span {
	var l []api.Span
	for i := range len(ends) - 1 {
		l = append(l, api.Span{Lo: ends[i], Hi: ends[i+1]})
	}
	return l
}

// wantCheck tells what Check is to answer: each break is looked at, and each two of them.
func wantCheck(n int, at []int) api.Errno {
	for i, one := range at {
		if one <= 0 || one >= n {
			return api.ErrBreak
		}
		for _, other := range at[:i] {
			if other >= one {
				return api.ErrBreak
			}
		}
	}
	return api.OK
}

// wantSplit tells what Split is to answer: each place is in the part of those that have the same breaks ahead.
func wantSplit(n int, at []int) ([]api.Span, api.Errno) {
	if err := wantCheck(n, at); err != api.OK {
		return nil, err
	}
	var l []api.Span
	for place := range n {
		if place == 0 || slices.Contains(at, place) {
			l = append(l, api.Span{Lo: place})
		}
		l[len(l)-1].Hi = place + 1
	}
	return l, api.OK
}

// wantThrough tells what Through is to answer: each cluster ahead of a break is held against each other one.
func wantThrough(l []api.Cluster, n, m int, at []int) ([]int, api.Errno) {
	if !cluster.Check(l, n, m) {
		return nil, api.ErrMap
	}
	if err := wantCheck(n, at); err != api.OK {
		return nil, err
	}
	var told []int
	for _, one := range at {
		sum := 0
		for _, c := range l {
			if c.In.Lo < one && one < c.In.Hi {
				return nil, api.ErrSplit
			}
			if c.In.Hi > one {
				continue
			}
			sum += c.Out.Hi - c.Out.Lo
			for _, other := range l {
				if other.In.Lo >= one && c.Out.Hi-1 >= min(other.Out.Lo, api.MaxText+1) {
					return nil, api.ErrSplit
				}
			}
		}
		told = append(told, sum)
	}
	return told, api.OK
}

// wantLines tells what Lines is to answer: each paragraph goes through all breaks.
func wantLines(paragraphs []api.Span, at []int) []api.Span {
	var l []api.Span
	for _, p := range paragraphs {
		begin := p.Lo
		for _, one := range at {
			if one > begin && one < p.Hi {
				l = append(l, api.Span{Lo: begin, Hi: one})
				begin = one
			}
		}
		l = append(l, api.Span{Lo: begin, Hi: p.Hi})
	}
	return l
}

// checkThrough holds what Through answers against what it is to answer.
func checkThrough(t *testing.T, l []api.Cluster, n, m int, at []int) {
	t.Helper()
	mapBefore, before := slices.Clone(l), slices.Clone(at)
	told, err := breaks.Through(l, n, m, at...)
	if want, wantErr := wantThrough(l, n, m, at); err != wantErr || !slices.Equal(told, want) {
		t.Fatalf("Through of %v, %d, %d, at %d: %d %d, want %d %d", l, n, m, at, told, err, want, wantErr)
	}
	if !slices.Equal(l, mapBefore) || !slices.Equal(at, before) {
		t.Fatalf("Through changed %v %d to %v %d", mapBefore, before, l, at)
	}
}

// checkLines holds what Lines answers against what it is to answer.
func checkLines(t *testing.T, paragraphs []api.Span, at []int) {
	t.Helper()
	paragraphsBefore, before := slices.Clone(paragraphs), slices.Clone(at)
	told := breaks.Lines(paragraphs, at...)
	if want := wantLines(paragraphs, at); !slices.Equal(told, want) {
		t.Fatalf("Lines of %v at %d: %v, want %v", paragraphs, at, told, want)
	}
	if !slices.Equal(paragraphs, paragraphsBefore) || !slices.Equal(at, before) {
		t.Fatalf("Lines changed %v %d to %v %d", paragraphsBefore, before, paragraphs, at)
	}
}

func TestCheckByHand(t *testing.T) { // P28.1
	for _, c := range []struct {
		n    int
		at   []int
		want api.Errno
	}{
		{5, []int{2, 2}, api.ErrBreak},
		{5, []int{3, 2}, api.ErrBreak},
		{5, []int{5}, api.ErrBreak},
		{5, []int{6}, api.ErrBreak},
		{5, []int{0}, api.ErrBreak},
		{5, []int{-1}, api.ErrBreak},
		{5, []int{0, 1}, api.ErrBreak},
		{5, []int{1, 4}, api.OK},
		{5, []int{1, 2, 3, 4}, api.OK},
		{5, nil, api.OK},
		{1, []int{1}, api.ErrBreak},
		{1, nil, api.OK},
		{0, nil, api.OK},
		{0, []int{0}, api.ErrBreak},
		{-1, nil, api.OK},
		{-1, []int{-2}, api.ErrBreak},
		{math.MinInt, nil, api.OK},
		{math.MinInt, []int{1}, api.ErrBreak},
		{math.MaxInt, []int{1, math.MaxInt - 1}, api.OK},
		{math.MaxInt, []int{1, math.MaxInt}, api.ErrBreak},
		{math.MaxInt, []int{math.MinInt}, api.ErrBreak},
	} {
		if err := breaks.Check(c.n, c.at...); err != c.want {
			t.Errorf("Check(%d, %d): %d, want %d", c.n, c.at, err, c.want)
		}
	}
}

func TestCheckAndSplit(t *testing.T) { // P28.1, P28.4
	for n := -2; n <= 5; n++ {
		for _, at := range lists(4, upTo(-1, 6)) {
			before := slices.Clone(at)
			if err, want := breaks.Check(n, at...), wantCheck(n, at); err != want {
				t.Fatalf("Check(%d, %d): %d, want %d", n, at, err, want)
			}
			parts, err := breaks.Split(n, at...)
			if want, wantErr := wantSplit(n, at); err != wantErr || !slices.Equal(parts, want) {
				t.Fatalf("Split(%d, %d): %v %d, want %v %d", n, at, parts, err, want, wantErr)
			}
			if err == api.OK && n >= 0 && !span.Parts(parts, n) {
				t.Fatalf("Split(%d, %d): %v are no parts", n, at, parts)
			}
			if !slices.Equal(at, before) {
				t.Fatalf("breaks changed from %d to %d", before, at)
			}
		}
	}
}

func TestSplitByHand(t *testing.T) { // P28.1
	for _, c := range []struct {
		n    int
		at   []int
		want []api.Span
		err  api.Errno
	}{
		{5, []int{2, 3}, spans(0, 2, 3, 5), api.OK},
		{5, nil, spans(0, 5), api.OK},
		{0, nil, nil, api.OK},
		{0, []int{1}, nil, api.ErrBreak},
		{-1, nil, nil, api.OK},
		{math.MinInt, nil, nil, api.OK},
		{5, []int{2, 5}, nil, api.ErrBreak},
		{math.MaxInt, []int{1, 1 << 40}, spans(0, 1, 1<<40, math.MaxInt), api.OK},
	} {
		if parts, err := breaks.Split(c.n, c.at...); err != c.err || !slices.Equal(parts, c.want) {
			t.Errorf("Split(%d, %d): %v %d, want %v %d", c.n, c.at, parts, err, c.want, c.err)
		}
	}
}

// to tells a cluster.
func to(in, inHi, out, outHi int) api.Cluster {
	return api.Cluster{In: api.Span{Lo: in, Hi: inHi}, Out: api.Span{Lo: out, Hi: outHi}}
}

func TestThroughByHand(t *testing.T) { // P28.2
	const most = api.MaxText
	for _, c := range []struct {
		l    []api.Cluster
		n, m int
		at   []int
		want []int
		err  api.Errno
	}{
		{cluster.Identity(3), 3, 3, []int{2}, []int{2}, api.OK},
		{cluster.Identity(3), 3, 3, []int{1, 2}, []int{1, 2}, api.OK},
		{cluster.Identity(3), 3, 3, nil, nil, api.OK},
		{cluster.Identity(3), 3, 3, []int{3}, nil, api.ErrBreak},
		{cluster.Identity(3), 3, 4, []int{3}, nil, api.ErrMap},
		{cluster.Identity(3), 4, 3, []int{3}, nil, api.ErrMap},
		{cluster.Identity(3), -1, 3, []int{3}, nil, api.ErrMap},
		{nil, 0, 0, nil, nil, api.OK},
		{nil, 0, 0, []int{1}, nil, api.ErrBreak},
		{nil, 1, 0, nil, nil, api.ErrMap},
		{nil, 0, 1, []int{1}, nil, api.ErrMap},
		{[]api.Cluster{{}}, 0, 0, nil, nil, api.ErrMap},
		{[]api.Cluster{to(0, 1, 0, 2), to(1, 3, 2, 3)}, 3, 3, []int{1}, []int{2}, api.OK},
		{[]api.Cluster{to(0, 1, 0, 2), to(1, 3, 2, 3)}, 3, 3, []int{2}, nil, api.ErrSplit},
		{[]api.Cluster{to(0, 1, 0, 2), to(1, 3, 2, 3)}, 3, 3, []int{2, 2}, nil, api.ErrBreak},
		{[]api.Cluster{to(1, 3, 2, 3), to(0, 1, 0, 2)}, 3, 3, []int{1}, nil, api.ErrMap},
		// The two that are ahead come out the other way round, and so do the two behind.
		{[]api.Cluster{to(0, 1, 1, 3), to(1, 2, 0, 1), to(2, 3, 4, 5), to(3, 4, 3, 4)}, 4, 5, []int{2}, []int{3}, api.OK},
		{[]api.Cluster{to(0, 1, 1, 3), to(1, 2, 0, 1), to(2, 3, 4, 5), to(3, 4, 3, 4)}, 4, 5, []int{1}, nil, api.ErrSplit},
		{[]api.Cluster{to(0, 1, 1, 3), to(1, 2, 0, 1), to(2, 3, 4, 5), to(3, 4, 3, 4)}, 4, 5, []int{2, 3}, nil, api.ErrSplit},
		{[]api.Cluster{to(0, 2, 1, 2), to(2, 3, 0, 1)}, 3, 2, []int{2}, nil, api.ErrSplit},
		// What comes out from MaxText + 1 on counts as coming out there.
		{[]api.Cluster{to(0, 1, 0, most), to(1, 2, most, most+9)}, 2, most + 9, []int{1}, []int{most}, api.OK},
		{[]api.Cluster{to(0, 1, 0, most+1), to(1, 2, most+1, most+9)}, 2, most + 9, []int{1}, []int{most + 1}, api.OK},
		{[]api.Cluster{to(0, 1, 0, most+2), to(1, 2, most+2, most+9)}, 2, most + 9, []int{1}, nil, api.ErrSplit},
		{[]api.Cluster{to(0, 1, 0, most+3), to(1, 2, most+3, most+9)}, 2, most + 9, []int{1}, nil, api.ErrSplit},
		{[]api.Cluster{to(0, 1, 0, 1), to(1, 2, 1, most+2), to(2, 3, most+2, most+3)}, 3, most + 3, []int{1}, []int{1}, api.OK},
		{[]api.Cluster{to(0, 1, 0, 1), to(1, 2, 1, most+2), to(2, 3, most+2, most+3)}, 3, most + 3, []int{1, 2}, nil, api.ErrSplit},
		{[]api.Cluster{to(0, 1, 1, most+1), to(1, 2, 0, 1), to(2, 3, most+1, most+2)}, 3, most + 2, []int{2}, []int{most + 1}, api.OK},
		{[]api.Cluster{to(0, 1, 1, most+2), to(1, 2, 0, 1), to(2, 3, most+2, most+3)}, 3, most + 3, []int{2}, nil, api.ErrSplit},
		{[]api.Cluster{to(0, 1, 0, math.MaxInt-1), to(1, 2, math.MaxInt-1, math.MaxInt)}, 2, math.MaxInt, []int{1}, nil, api.ErrSplit},
		{[]api.Cluster{to(0, math.MaxInt-1, 0, 1), to(math.MaxInt-1, math.MaxInt, 1, math.MaxInt)}, math.MaxInt, math.MaxInt, []int{math.MaxInt - 1}, []int{1}, api.OK},
	} {
		told, err := breaks.Through(c.l, c.n, c.m, c.at...)
		if err != c.err || !slices.Equal(told, c.want) {
			t.Errorf("Through of %v, %d, %d, at %d: %d %d, want %d %d", c.l, c.n, c.m, c.at, told, err, c.want, c.err)
		}
		checkThrough(t, c.l, c.n, c.m, c.at)
	}
}

// partings tells each list of k spans that are parts of n.
func partings(n, k int) [][]api.Span {
	var all [][]api.Span
	for _, cuts := range lists(k-1, upTo(1, n-1)) {
		if len(cuts) == k-1 && wantCheck(n, cuts) == api.OK {
			all = append(all, spans(slices.Concat([]int{0}, cuts, []int{n})...))
		}
	}
	return all
}

// maps calls f with each map of n to m.
func maps(n, m int, f func(l []api.Cluster)) {
	for k := 1; k <= min(n, m); k++ {
		for _, ins := range partings(n, k) {
			for _, outs := range partings(m, k) {
				each(k, upTo(0, k-1), func(order []int) {
					l := make([]api.Cluster, k)
					for at, which := range order {
						l[at] = api.Cluster{In: ins[at], Out: outs[which]}
					}
					if cluster.Check(l, n, m) {
						f(l)
					}
				})
			}
		}
	}
}

func TestThroughEachMap(t *testing.T) { // P28.2
	for n := 1; n <= 4; n++ {
		all := lists(3, upTo(0, n))
		for m := 1; m <= 4; m++ {
			maps(n, m, func(l []api.Cluster) {
				for _, at := range all {
					checkThrough(t, l, n, m, at)
				}
			})
		}
	}
	maps(5, 5, func(l []api.Cluster) {
		for _, at := range lists(2, upTo(1, 4)) {
			checkThrough(t, l, 5, 5, at)
		}
	})
}

// Lists that are maps of other sizes, or none: P28.2.
func TestThroughNoMap(t *testing.T) {
	ends := upTo(-1, 2)
	each(4, ends, func(one []int) {
		each(4, ends, func(other []int) {
			l := []api.Cluster{to(one[0], one[1], one[2], one[3]), to(other[0], other[1], other[2], other[3])}
			for n := range 3 {
				checkThrough(t, l, n, 2, []int{1})
				checkThrough(t, l[:1], n, 1, []int{1})
			}
		})
	})
}

// shuffled tells the numbers below n as if they were drawn.
func shuffled(n int, seed uint64) []int {
	list := upTo(0, n-1)
	for at, drawn := range numbers(n, 1<<30, seed) {
		other := drawn % (at + 1)
		list[at], list[other] = list[other], list[at]
	}
	return list
}

// Long maps, some clusters of which are exchanged within pieces that stay ahead of one another: P28.2.
func TestThroughLongMaps(t *testing.T) {
	for seed := range uint64(300) {
		var l []api.Cluster
		var at []int
		n, m := 0, 0
		for piece, size := range numbers(12, 3, seed) {
			order := shuffled(size+1, seed+uint64(piece))
			inner := make([]api.Cluster, len(order))
			for _, which := range order {
				inner[which].Out = api.Span{Lo: m, Hi: m + 1 + which%2}
				m = inner[which].Out.Hi
			}
			for which := range inner {
				inner[which].In = api.Span{Lo: n, Hi: n + 1 + (which+1)%2}
				n = inner[which].In.Hi
			}
			l, at = append(l, inner...), append(at, n)
		}
		checkThrough(t, l, n, m, at[:11])
		for one := range n + 1 {
			checkThrough(t, l, n, m, []int{one})
		}
		if _, err := breaks.Through(l, n, m, at[:11]...); err != api.OK {
			t.Fatalf("Through between the pieces of %v: %d", l, err)
		}
	}
}

func TestLinesByHand(t *testing.T) { // P28.3
	for _, c := range []struct {
		paragraphs []api.Span
		at         []int
		want       []api.Span
	}{
		{nil, nil, nil},
		{nil, []int{1, 2}, nil},
		{spans(0, 5), nil, spans(0, 5)},
		{spans(0, 5), []int{2, 3}, spans(0, 2, 3, 5)},
		{spans(0, 5), []int{0, 2, 5, 6}, spans(0, 2, 5)},
		{spans(0, 2, 5), []int{1, 2, 3}, spans(0, 1, 2, 3, 5)},
		{spans(0, 5), []int{3, 2, 4}, spans(0, 3, 4, 5)},
		{spans(0, 5), []int{2, 2, 2}, spans(0, 2, 5)},
		{spans(0, 5), []int{4, 3, 2, 1}, spans(0, 4, 5)},
		{spans(0, 9), []int{7, 2, 7, 8, 3, 8}, spans(0, 7, 8, 9)},
		{spans(0, 3, 9), []int{7, 2, 1, 8, 5}, spans(0, 2, 3, 7, 8, 9)},
		{spans(0, 3, 9), []int{12, 5, -4, 1}, spans(0, 1, 3, 5, 9)},
		// Paragraphs that are not parts: each by itself.
		{[]api.Span{{Lo: 4, Hi: 6}, {Lo: 0, Hi: 6}, {Lo: 4, Hi: 6}}, []int{2, 5}, []api.Span{{Lo: 4, Hi: 5}, {Lo: 5, Hi: 6}, {Lo: 0, Hi: 2}, {Lo: 2, Hi: 5}, {Lo: 5, Hi: 6}, {Lo: 4, Hi: 5}, {Lo: 5, Hi: 6}}},
		{[]api.Span{{}, {Lo: 3, Hi: 3}, {Lo: 5, Hi: 1}}, []int{1, 2, 3, 4}, []api.Span{{}, {Lo: 3, Hi: 3}, {Lo: 5, Hi: 1}}},
		{[]api.Span{{Lo: -5, Hi: 1}}, []int{-5, -3, 0}, spans(-5, -3, 0, 1)},
		{[]api.Span{{Lo: math.MinInt, Hi: math.MaxInt}}, []int{math.MinInt, 0, math.MaxInt}, spans(math.MinInt, 0, math.MaxInt)},
		{[]api.Span{{Lo: math.MaxInt, Hi: math.MinInt}}, []int{math.MinInt, 0, math.MaxInt}, []api.Span{{Lo: math.MaxInt, Hi: math.MinInt}}},
	} {
		if l := breaks.Lines(c.paragraphs, c.at...); !slices.Equal(l, c.want) {
			t.Errorf("Lines of %v at %d: %v, want %v", c.paragraphs, c.at, l, c.want)
		}
		checkLines(t, c.paragraphs, c.at)
	}
}

func TestLinesEach(t *testing.T) { // P28.3
	for _, at := range lists(5, upTo(0, 6)) {
		checkLines(t, spans(0, 6), at)
		checkLines(t, spans(0, 3, 6), at)
		checkLines(t, []api.Span{{Lo: 2, Hi: 5}, {Lo: 0, Hi: 6}, {Lo: 1, Hi: 3}}, at)
	}
	all := lists(3, upTo(-1, 4))
	each(4, upTo(-1, 4), func(ends []int) {
		for _, at := range all {
			checkLines(t, []api.Span{{Lo: ends[0], Hi: ends[1]}, {Lo: ends[2], Hi: ends[3]}}, at)
		}
	})
}

func TestLinesLong(t *testing.T) { // P28.3
	for seed := range uint64(1000) {
		limit := int(seed)%50 + 2
		at := numbers(int(seed)%70, limit, seed)
		ends := numbers(20, limit, seed+7)
		var some []api.Span
		for i := range 10 {
			some = append(some, api.Span{Lo: ends[i], Hi: ends[i+10]})
		}
		checkLines(t, some, at)
		slices.Sort(at)
		slices.Sort(ends)
		checkLines(t, some, at)
		checkLines(t, spans(slices.Compact(ends)...), at)
		checkLines(t, spans(slices.Compact(ends)...), slices.Compact(at))
	}
}

// Where breaks do what Split asks of them, the lines of one paragraph are the parts.
func TestLinesAreParts(t *testing.T) {
	for n := 1; n <= 6; n++ {
		for _, at := range lists(3, upTo(1, 5)) {
			if parts, err := breaks.Split(n, at...); err == api.OK && !slices.Equal(parts, breaks.Lines(spans(0, n), at...)) {
				t.Fatalf("Lines of %d at %d", n, at)
			}
		}
	}
}

// What is answered is its own: R3.
func TestOwnMemory(t *testing.T) {
	at := []int{1, 2, 4}
	l := cluster.Identity(5)
	paragraphs := spans(0, 3, 5)
	blot := func(list []api.Span) {
		list = list[:cap(list)]
		for i := range list {
			list[i] = api.Span{Lo: 99, Hi: 99}
		}
	}
	parts, _ := breaks.Split(5, at...)
	lines := breaks.Lines(paragraphs, at...)
	alone := breaks.Lines(paragraphs)
	places, _ := breaks.Through(l, 5, 5, at...)
	places = places[:cap(places)]
	for i := range places {
		places[i] = 99
	}
	blot(parts)
	blot(lines)
	blot(alone)
	if !slices.Equal(at, []int{1, 2, 4}) || !slices.Equal(l, cluster.Identity(5)) || !slices.Equal(paragraphs, spans(0, 3, 5)) {
		t.Error("what was given is not what it was", at, l, paragraphs)
	}
	if again, _ := breaks.Split(5, at...); !slices.Equal(again, spans(0, 1, 2, 4, 5)) {
		t.Error("Split is not what it was", again)
	}
	if again := breaks.Lines(paragraphs, at...); !slices.Equal(again, spans(0, 1, 2, 3, 4, 5)) {
		t.Error("Lines is not what it was", again)
	}
}

// Lists of the greatest size.
func TestMaxText(t *testing.T) {
	const n = api.MaxText
	at := upTo(1, n-1)
	if breaks.Check(n, at...) != api.OK {
		t.Error("Check")
	}
	if parts, err := breaks.Split(n, at...); err != api.OK || len(parts) != n || !span.Parts(parts, n) {
		t.Error("Split", err)
	}
	if places, err := breaks.Through(cluster.Identity(n), n, n, at...); err != api.OK || !slices.Equal(places, at) {
		t.Error("Through", err)
	}
	if l := breaks.Lines(spans(0, n), at...); len(l) != n || !span.Parts(l, n) {
		t.Error("Lines")
	}
}

// Many breaks that do not rise, in many paragraphs: each paragraph takes its own alone.
func TestManyBreaks(t *testing.T) {
	const n = 1 << 20
	at := upTo(1, n-1)
	slices.Reverse(at)
	var pieces []api.Span
	for lo := 0; lo < n; lo += 4 {
		pieces = append(pieces, api.Span{Lo: lo, Hi: lo + 4})
	}
	l := breaks.Lines(pieces, at...)
	if len(l) != n/2 || !span.Parts(l, n) || l[0].Hi != 3 || l[1].Hi != 4 {
		t.Error("Lines at falling breaks", len(l))
	}
	whole := slices.Repeat(spans(0, n), n/4)
	if l := breaks.Lines(whole, at...); len(l) != n/2 || l[0] != (api.Span{Hi: n - 1}) || l[n/2-1] != (api.Span{Lo: n - 1, Hi: n}) {
		t.Error("Lines of many wholes", len(l))
	}
	some := shuffled(n, 3)
	lines := breaks.Lines(spans(0, n), some...)
	if !slices.Equal(lines, wantLines(spans(0, n), some)) {
		t.Error("Lines at breaks that were drawn", len(lines))
	}
}
