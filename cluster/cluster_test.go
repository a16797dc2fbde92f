package cluster_test

import (
	"math"
	"slices"
	"testing"

	"naskh/api"
	"naskh/cluster"
)

// of is a span in fewer words.
func of(lo, hi int) api.Span { return api.Span{Lo: lo, Hi: hi} }

// to is a cluster in fewer words.
func to(a, b, c, d int) api.Cluster { return api.Cluster{In: of(a, b), Out: of(c, d)} }

// dice tells numbers that look like any, the same in every run.
type dice struct{ last uint32 }

// below tells a number from 0 on, below n.
func (d *dice) below(n int) int {
	d.last = d.last*1664525 + 1013904223
	return int(d.last>>8) % n
}

// span tells a right span within n.
func (d *dice) span(n int) api.Span {
	lo := d.below(n)
	return of(lo, lo+1+d.below(min(n-lo, 3)))
}

// parts tells n in so many parts.
func (d *dice) parts(n, count int) []api.Span {
	cuts := map[int]bool{}
	for len(cuts) < count-1 {
		cuts[1+d.below(n-1)] = true
	}
	var l []api.Span
	lo := 0
	for at := 1; at <= n; at++ {
		if cuts[at] || at == n {
			l = append(l, of(lo, at))
			lo = at
		}
	}
	return l
}

// mapOf tells a map of n to m with so many clusters, in some order.
func (d *dice) mapOf(n, m, count int) []api.Cluster {
	ins, outs := d.parts(n, count), d.parts(m, count)
	for i := range outs {
		j := d.below(i + 1)
		outs[i], outs[j] = outs[j], outs[i]
	}
	var l []api.Cluster
	for i := range ins {
		l = append(l, api.Cluster{In: ins[i], Out: outs[i]})
	}
	return l
}

// within says whether a right span lies within n.
func within(s api.Span, n int) bool { return s.Lo >= 0 && s.Lo < s.Hi && s.Hi <= n }

// joiner holds which of some numbers are the same: the least one of them for each.
type joiner []int

// join makes two the same, and says whether they were not.
func (j joiner) join(a, b int) bool {
	x, y := min(j[a], j[b]), max(j[a], j[b])
	for i := range j {
		if j[i] == y {
			j[i] = x
		}
	}
	return x != y
}

// between has all that lie from lo on, below hi, between two that are the same be the same, and says whether anything was not.
func (j joiner) between(lo, hi int) bool {
	more := false
	for a := lo; a < hi; a++ {
		for b := a + 1; b < hi; b++ {
			for c := a; c < b && j[a] == j[b]; c++ {
				more = j.join(a, c) || more
			}
		}
	}
	return more
}

// finest tells Finest from the promise's words: what belongs together is spread till nothing is new.
func finest(n, m int, links []api.Cluster) ([]api.Cluster, api.Errno) {
	if n < 0 || m < 0 || slices.ContainsFunc(links, func(c api.Cluster) bool { return !within(c.In, n) || !within(c.Out, m) }) {
		return nil, api.ErrArg
	}
	linked := make([]bool, n+m)
	j := make(joiner, n+m)
	for i := range j {
		j[i] = i
	}
	for _, c := range links {
		for at := c.In.Lo; at < c.In.Hi; at++ {
			linked[at] = true
			j.join(c.In.Lo, at)
		}
		for at := c.Out.Lo; at < c.Out.Hi; at++ {
			linked[n+at] = true
			j.join(c.In.Lo, n+at)
		}
	}
	switch {
	case m == 0 && n != 0:
		return nil, api.ErrAllRemoved
	case slices.Contains(linked[n:], false):
		return nil, api.ErrMap
	}
	first := slices.Index(linked, true)
	for at := range n {
		if at < first {
			j.join(at, at+1)
		} else if !linked[at] {
			j.join(at, at-1)
		}
	}
	for j.between(0, n) || j.between(n, n+m) {
	}
	var l []api.Cluster
	for at := range n {
		if at > 0 && j[at] == j[at-1] {
			continue
		}
		in, out := of(at, at), of(m, 0)
		for i, same := range j {
			switch {
			case same != j[at]:
			case i < n:
				in.Hi = i + 1
			default:
				out = of(min(out.Lo, i-n), max(out.Hi, i-n+1))
			}
		}
		l = append(l, api.Cluster{In: in, Out: out})
	}
	return l, api.OK
}

// compare holds Finest against the promise's words, and against P4.4.
func compare(t *testing.T, n, m int, links []api.Cluster) {
	t.Helper()
	want, e := finest(n, m, links)
	got, err := cluster.Finest(n, m, links)
	if err != e || !slices.Equal(got, want) {
		t.Fatalf("Finest(%d, %d, %v): %v, %d, not %v, %d", n, m, links, got, err, want, e)
	}
	if err != api.OK {
		if got != nil {
			t.Fatalf("Finest(%d, %d, %v): %v beside an error", n, m, links, got)
		}
		return
	}
	if !cluster.Check(got, n, m) {
		t.Fatalf("Finest(%d, %d, %v): %v is no map", n, m, links, got)
	}
	for _, c := range links {
		if !slices.ContainsFunc(got, func(x api.Cluster) bool {
			return x.In.Lo <= c.In.Lo && c.In.Hi <= x.In.Hi && x.Out.Lo <= c.Out.Lo && c.Out.Hi <= x.Out.Hi
		}) {
			t.Fatalf("Finest(%d, %d, %v): %v cuts %v", n, m, links, got, c)
		}
	}
}

// P4.1: Check: In spans in this order, Out spans in any.
func TestCheck(t *testing.T) {
	for _, c := range []struct {
		l    []api.Cluster
		n, m int
		want bool
	}{
		{nil, 0, 0, true}, {[]api.Cluster{}, 0, 0, true}, {nil, 1, 0, false}, {nil, 0, 1, false}, {nil, -1, 0, false}, {nil, 0, -1, false}, {nil, -1, -1, false},
		{[]api.Cluster{to(0, 1, 0, 1)}, 1, 1, true},
		{[]api.Cluster{to(0, 2, 0, 3)}, 2, 3, true}, {[]api.Cluster{to(0, 2, 0, 3)}, 3, 2, false},
		{[]api.Cluster{to(0, 2, 0, 3)}, 2, 4, false}, {[]api.Cluster{to(0, 2, 0, 3)}, 1, 3, false},
		{[]api.Cluster{to(0, 1, 1, 2), to(1, 2, 0, 1)}, 2, 2, true},
		{[]api.Cluster{to(1, 2, 0, 1), to(0, 1, 1, 2)}, 2, 2, false},
		{[]api.Cluster{to(0, 2, 4, 5), to(2, 3, 0, 3), to(3, 7, 3, 4)}, 7, 5, true},
		{[]api.Cluster{to(0, 2, 4, 5), to(2, 3, 0, 3), to(3, 7, 2, 4)}, 7, 5, false},
		{[]api.Cluster{to(0, 2, 4, 5), to(2, 3, 0, 2), to(3, 7, 3, 4)}, 7, 5, false},
		{[]api.Cluster{to(0, 2, 4, 5), to(3, 4, 0, 3), to(4, 7, 3, 4)}, 7, 5, false},
		{[]api.Cluster{to(0, 1, 0, 1), to(1, 2, 0, 1)}, 2, 1, false},
		{[]api.Cluster{to(0, 1, 0, 1), to(0, 1, 1, 2)}, 1, 2, false},
		{[]api.Cluster{to(0, 1, 0, 1), to(1, 1, 1, 2)}, 1, 2, false},
		{[]api.Cluster{to(0, 1, 0, 1), to(1, 2, 1, 1)}, 2, 1, false},
		{[]api.Cluster{to(0, 1, -1, 1)}, 1, 1, false}, {[]api.Cluster{to(-1, 1, 0, 1)}, 1, 1, false},
		{[]api.Cluster{to(0, math.MaxInt, 0, 1)}, math.MaxInt, 1, true},
		{[]api.Cluster{to(math.MinInt, math.MaxInt, math.MaxInt, math.MinInt)}, math.MaxInt, math.MinInt, false},
	} {
		if got := cluster.Check(c.l, c.n, c.m); got != c.want {
			t.Errorf("Check(%v, %d, %d): %v", c.l, c.n, c.m, got)
		}
	}
}

// P4.2: Finest, by hand.
func TestFinest(t *testing.T) {
	for _, c := range []struct {
		name  string
		n, m  int
		links []api.Cluster
		want  []api.Cluster
	}{
		{"nothing", 0, 0, nil, nil},
		{"crossed", 2, 2, []api.Cluster{to(0, 1, 1, 2), to(1, 2, 0, 1)}, []api.Cluster{to(0, 1, 1, 2), to(1, 2, 0, 1)}},
		{"crossed, told the other way", 2, 2, []api.Cluster{to(1, 2, 0, 1), to(0, 1, 1, 2)}, []api.Cluster{to(0, 1, 1, 2), to(1, 2, 0, 1)}},
		{"no link ahead, none behind", 3, 1, []api.Cluster{to(1, 2, 0, 1)}, []api.Cluster{to(0, 3, 0, 1)}},
		{"no link between", 3, 2, []api.Cluster{to(0, 1, 0, 1), to(2, 3, 1, 2)}, []api.Cluster{to(0, 2, 0, 1), to(2, 3, 1, 2)}},
		{"no link between, crossed", 4, 2, []api.Cluster{to(1, 2, 1, 2), to(3, 4, 0, 1)}, []api.Cluster{to(0, 3, 1, 2), to(3, 4, 0, 1)}},
		{"between on the side of In", 3, 2, []api.Cluster{to(0, 1, 0, 1), to(2, 3, 0, 1), to(1, 2, 1, 2)}, []api.Cluster{to(0, 3, 0, 2)}},
		{"between on the side of Out", 2, 3, []api.Cluster{to(0, 1, 0, 1), to(0, 1, 2, 3), to(1, 2, 1, 2)}, []api.Cluster{to(0, 2, 0, 3)}},
		{"between, no link there", 4, 2, []api.Cluster{to(0, 1, 0, 1), to(2, 3, 0, 1), to(3, 4, 1, 2)}, []api.Cluster{to(0, 3, 0, 1), to(3, 4, 1, 2)}},
		{"twice the same", 1, 1, []api.Cluster{to(0, 1, 0, 1), to(0, 1, 0, 1)}, []api.Cluster{to(0, 1, 0, 1)}},
		{"spans that share a place", 4, 4, []api.Cluster{to(0, 2, 0, 1), to(1, 3, 1, 2), to(3, 4, 2, 4)}, []api.Cluster{to(0, 3, 0, 2), to(3, 4, 2, 4)}},
		{"spans that touch", 4, 2, []api.Cluster{to(0, 2, 1, 2), to(2, 4, 0, 1)}, []api.Cluster{to(0, 2, 1, 2), to(2, 4, 0, 1)}},
		{
			"to and fro", 5, 5,
			[]api.Cluster{to(0, 1, 1, 3), to(1, 2, 0, 1), to(2, 3, 2, 3), to(3, 4, 3, 4), to(4, 5, 4, 5)},
			[]api.Cluster{to(0, 3, 0, 3), to(3, 4, 3, 4), to(4, 5, 4, 5)},
		},
	} {
		got, e := cluster.Finest(c.n, c.m, c.links)
		if e != api.OK || !slices.Equal(got, c.want) {
			t.Errorf("%s: %v, %d, not %v", c.name, got, e, c.want)
		}
		compare(t, c.n, c.m, c.links)
	}
}

// P4.2: what Finest refuses, and which error is told first.
func TestFinestRefuses(t *testing.T) {
	one := []api.Cluster{to(0, 1, 0, 1)}
	for _, c := range []struct {
		n, m  int
		links []api.Cluster
		want  api.Errno
	}{
		{-1, 1, nil, api.ErrArg}, {1, -1, nil, api.ErrArg}, {-1, 0, nil, api.ErrArg}, {0, -1, nil, api.ErrArg},
		{math.MinInt, 1, one, api.ErrArg}, {1, math.MaxInt, one, api.ErrArg},
		{api.MaxText + 1, 1, one, api.ErrArg}, {1, api.MaxText + 1, []api.Cluster{to(0, 1, 0, api.MaxText+1)}, api.ErrArg},
		{api.MaxText + 1, 0, nil, api.ErrArg}, {0, api.MaxText + 1, nil, api.ErrArg},
		{2, 2, []api.Cluster{to(0, 2, 0, 2), to(1, 1, 0, 1)}, api.ErrArg},
		{2, 2, []api.Cluster{to(0, 2, 0, 2), to(0, 1, 1, 0)}, api.ErrArg},
		{2, 2, []api.Cluster{to(0, 2, 0, 2), to(-1, 1, 0, 1)}, api.ErrArg},
		{2, 2, []api.Cluster{to(0, 2, 0, 2), to(0, 1, -1, 1)}, api.ErrArg},
		{2, 2, []api.Cluster{to(0, 2, 0, 2), to(0, 3, 0, 1)}, api.ErrArg},
		{2, 2, []api.Cluster{to(0, 2, 0, 2), to(0, 1, 1, 3)}, api.ErrArg},
		{2, 2, []api.Cluster{to(0, 1, 0, math.MaxInt)}, api.ErrArg}, {2, 2, []api.Cluster{to(math.MinInt, 1, 0, 1)}, api.ErrArg},
		{2, 0, one, api.ErrArg}, {0, 2, one, api.ErrArg}, {0, 0, one, api.ErrArg}, {0, 0, []api.Cluster{{}}, api.ErrArg},
		{2, 0, nil, api.ErrAllRemoved}, {1, 0, []api.Cluster{}, api.ErrAllRemoved}, {api.MaxText, 0, nil, api.ErrAllRemoved},
		{0, 1, nil, api.ErrMap}, {0, api.MaxText, nil, api.ErrMap},
		{1, 1, nil, api.ErrMap}, {1, 2, one, api.ErrMap},
		{1, 2, []api.Cluster{to(0, 1, 1, 2)}, api.ErrMap},
		{2, 3, []api.Cluster{to(0, 1, 0, 1), to(0, 1, 2, 3)}, api.ErrMap},
		{2, 4, []api.Cluster{to(0, 1, 0, 3), to(0, 1, 1, 2)}, api.ErrMap},
	} {
		if got, e := cluster.Finest(c.n, c.m, c.links); e != c.want || got != nil {
			t.Errorf("Finest(%d, %d, %v): %v, %d, not %d", c.n, c.m, c.links, got, e, c.want)
		}
	}
}

// P4.2, P4.4: Finest of every few links of few places, against the promise's words.
func TestFinestEach(t *testing.T) {
	for n := range 4 {
		for m := range 4 {
			var all []api.Cluster
			for a := range n {
				for b := a + 1; b <= n; b++ {
					for c := range m {
						for d := c + 1; d <= m; d++ {
							all = append(all, to(a, b, c, d))
						}
					}
				}
			}
			compare(t, n, m, nil)
			for _, x := range all {
				compare(t, n, m, []api.Cluster{x})
				for _, y := range all {
					compare(t, n, m, []api.Cluster{x, y})
					for _, z := range all {
						compare(t, n, m, []api.Cluster{x, y, z})
					}
				}
			}
		}
	}
}

// P4.2, P4.4: Finest of many links, wrong ones among them, against the promise's words.
func TestFinestMany(t *testing.T) {
	d := &dice{}
	for range 20000 {
		n, m := 1+d.below(9), 1+d.below(9)
		var links []api.Cluster
		if d.below(2) == 0 {
			links = d.mapOf(n, m, 1+d.below(min(n, m)))
		}
		for range d.below(8) {
			links = append(links, api.Cluster{In: d.span(n), Out: d.span(m)})
		}
		if d.below(20) == 0 {
			links = append(links, to(d.below(n+2)-1, d.below(n+2), d.below(m+2)-1, d.below(m+2)))
		}
		compare(t, n, m, links)
	}
}

// P4.2: as many places as there may be.
func TestFinestMaxText(t *testing.T) {
	for _, c := range []struct {
		n, m        int
		links, want []api.Cluster
	}{
		{api.MaxText, 1, []api.Cluster{to(5, 6, 0, 1)}, []api.Cluster{to(0, api.MaxText, 0, 1)}},
		{1, api.MaxText, []api.Cluster{to(0, 1, 0, api.MaxText)}, []api.Cluster{to(0, 1, 0, api.MaxText)}},
	} {
		if got, e := cluster.Finest(c.n, c.m, c.links); e != api.OK || !slices.Equal(got, c.want) {
			t.Errorf("Finest(%d, %d, %v): %v, %d", c.n, c.m, c.links, got, e)
		}
	}
}

// P4.2: links each of which draws in the next one come to one cluster in steps as many as they are, in whichever order they are told.
func TestFinestChain(t *testing.T) {
	const n = 1 << 18
	var links []api.Cluster
	for at := range n {
		if at%2 == 0 {
			links = append(links, to(at, at+1, at, min(at+2, n)))
		} else {
			links = append(links, to(at-1, min(at+2, n), at, at+1))
		}
	}
	for range 2 {
		if got, e := cluster.Finest(n, n, links); e != api.OK || !slices.Equal(got, []api.Cluster{to(0, n, 0, n)}) {
			t.Fatalf("%d clusters, %d", len(got), e)
		}
		slices.Reverse(links)
	}
}

// P4.3: Compose, by hand.
func TestCompose(t *testing.T) {
	cross := []api.Cluster{to(0, 1, 1, 2), to(1, 2, 0, 1)}
	for _, c := range []struct {
		name       string
		a, b, want []api.Cluster
	}{
		{"nothing", nil, nil, nil},
		{"crossed twice", cross, cross, cluster.Identity(2)},
		{"two become one, and go on", []api.Cluster{to(0, 2, 0, 1), to(2, 3, 1, 2)}, cross, []api.Cluster{to(0, 2, 1, 2), to(2, 3, 0, 1)}},
		{"two of b meet one of a", []api.Cluster{to(0, 1, 0, 2)}, cross, []api.Cluster{to(0, 1, 0, 2)}},
		{"two of a meet one of b", cross, []api.Cluster{to(0, 2, 0, 3)}, []api.Cluster{to(0, 2, 0, 3)}},
		{
			"a place that both share", []api.Cluster{to(0, 1, 0, 2), to(1, 2, 2, 3)}, []api.Cluster{to(0, 1, 0, 1), to(1, 3, 1, 2)},
			[]api.Cluster{to(0, 2, 0, 2)},
		},
		{
			"as they are turned round", []api.Cluster{to(0, 1, 2, 3), to(1, 3, 1, 2), to(3, 4, 0, 1)}, []api.Cluster{to(0, 1, 0, 1), to(1, 2, 1, 4), to(2, 3, 4, 5)},
			[]api.Cluster{to(0, 1, 4, 5), to(1, 3, 1, 4), to(3, 4, 0, 1)},
		},
		{"a great place between", []api.Cluster{to(0, 1, 0, math.MaxInt)}, []api.Cluster{to(0, math.MaxInt, 0, 2)}, []api.Cluster{to(0, 1, 0, 2)}},
	} {
		if got, e := cluster.Compose(c.a, c.b); e != api.OK || !slices.Equal(got, c.want) {
			t.Errorf("%s: %v, %d, not %v", c.name, got, e, c.want)
		}
	}
}

// P4.3: Compose refuses what is no map, or no map of what comes out; what is more than Finest takes it refuses as Finest does.
func TestComposeRefuses(t *testing.T) {
	one, two := cluster.Identity(1), cluster.Identity(2)
	long := []api.Cluster{to(0, api.MaxText+1, 0, 1)}
	for _, c := range []struct {
		a, b []api.Cluster
		want api.Errno
	}{
		{one, two, api.ErrMap}, {two, one, api.ErrMap}, {nil, one, api.ErrMap}, {one, nil, api.ErrMap},
		{[]api.Cluster{{}}, nil, api.ErrMap}, {nil, []api.Cluster{{}}, api.ErrMap}, {[]api.Cluster{{}}, []api.Cluster{{}}, api.ErrMap},
		{[]api.Cluster{to(1, 2, 0, 1), to(0, 1, 1, 2)}, two, api.ErrMap}, {two, []api.Cluster{to(1, 2, 0, 1), to(0, 1, 1, 2)}, api.ErrMap},
		{[]api.Cluster{to(0, 1, 0, 1), to(1, 2, 0, 1)}, one, api.ErrMap}, {one, []api.Cluster{to(0, 1, 1, 2)}, api.ErrMap},
		{[]api.Cluster{to(0, 1, -1, 1)}, one, api.ErrMap}, {one, []api.Cluster{to(0, 1, 0, 1), to(1, 0, 1, 2)}, api.ErrMap},
		{[]api.Cluster{to(0, 1, math.MinInt, math.MinInt)}, nil, api.ErrMap},
		{long, one, api.ErrArg}, {one, []api.Cluster{to(0, 1, 0, math.MaxInt)}, api.ErrArg}, {long, two, api.ErrMap},
	} {
		if got, e := cluster.Compose(c.a, c.b); e != c.want || got != nil {
			t.Errorf("Compose(%v, %v): %v, %d, not %d", c.a, c.b, got, e, c.want)
		}
	}
}

// P4.3: Compose of many maps, against the promise's words; P4.5: of a map and an Identity it is the map.
func TestComposeMany(t *testing.T) {
	d := &dice{last: 5}
	for range 5000 {
		n, m, k := 1+d.below(9), 1+d.below(9), 1+d.below(9)
		a, b := d.mapOf(n, m, 1+d.below(min(n, m))), d.mapOf(m, k, 1+d.below(min(m, k)))
		var links []api.Cluster
		for _, y := range b {
			for _, x := range a {
				if max(x.Out.Lo, y.In.Lo) < min(x.Out.Hi, y.In.Hi) {
					links = append(links, api.Cluster{In: x.In, Out: y.Out})
				}
			}
		}
		want, _ := finest(n, k, links)
		if got, e := cluster.Compose(a, b); e != api.OK || !slices.Equal(got, want) {
			t.Fatalf("Compose(%v, %v): %v, %d, not %v", a, b, got, e, want)
		}
		if got, e := cluster.Compose(a, cluster.Identity(m)); e != api.OK || !slices.Equal(got, a) {
			t.Fatalf("Compose(%v, Identity): %v, %d", a, got, e)
		}
		if got, e := cluster.Compose(cluster.Identity(n), a); e != api.OK || !slices.Equal(got, a) {
			t.Fatalf("Compose(Identity, %v): %v, %d", a, got, e)
		}
	}
}

// P4.3: Identity.
func TestIdentity(t *testing.T) {
	if got := cluster.Identity(3); !slices.Equal(got, []api.Cluster{to(0, 1, 0, 1), to(1, 2, 1, 2), to(2, 3, 2, 3)}) {
		t.Errorf("Identity(3): %v", got)
	}
	for _, n := range []int{0, -1, math.MinInt, math.MaxInt} {
		if got := cluster.Identity(n); len(got) != 0 {
			t.Errorf("Identity(%d): %d clusters", n, len(got))
		}
	}
	if got := cluster.Identity(1000); !cluster.Check(got, 1000, 1000) {
		t.Errorf("Identity(1000): %v", got)
	}
}

// P4.3: Turn, of maps and of what is none.
func TestTurn(t *testing.T) {
	for _, c := range []struct{ l, want []api.Cluster }{
		{nil, nil},
		{[]api.Cluster{to(0, 2, 4, 5), to(2, 3, 0, 3), to(3, 7, 3, 4)}, []api.Cluster{to(0, 3, 2, 3), to(3, 4, 3, 7), to(4, 5, 0, 2)}},
		{[]api.Cluster{to(8, 9, 1, 9), to(5, 6, 1, 2), to(7, 8, 0, 1), to(6, 7, 1, 4)}, []api.Cluster{to(0, 1, 7, 8), to(1, 9, 8, 9), to(1, 2, 5, 6), to(1, 4, 6, 7)}},
		{[]api.Cluster{to(0, 1, math.MaxInt, 0), to(1, 0, math.MinInt, 0), to(2, 2, -1, 0)}, []api.Cluster{to(math.MinInt, 0, 1, 0), to(-1, 0, 2, 2), to(math.MaxInt, 0, 0, 1)}},
	} {
		if got := cluster.Turn(c.l); !slices.Equal(got, c.want) {
			t.Errorf("Turn(%v): %v, not %v", c.l, got, c.want)
		}
	}
	same := make([]api.Cluster, 50)
	for i := range same {
		same[i] = to(49-i, 50-i, i%2, 9)
	}
	got := cluster.Turn(same)
	for i := 1; i < len(got); i++ {
		if a, b := got[i-1], got[i]; a.In.Lo > b.In.Lo || a.In.Lo == b.In.Lo && a.Out.Lo <= b.Out.Lo {
			t.Fatalf("Turn: %v ahead of %v", a, b)
		}
	}
}

// P4.3: a map that is turned is a map, and turned again what it was.
func TestTurnBack(t *testing.T) {
	d := &dice{last: 9}
	for range 1000 {
		n, m := 1+d.below(9), 1+d.below(9)
		l := d.mapOf(n, m, 1+d.below(min(n, m)))
		turned := cluster.Turn(l)
		if !cluster.Check(turned, m, n) || !slices.Equal(cluster.Turn(turned), l) {
			t.Fatalf("Turn(%v): %v", l, turned)
		}
	}
}

// R3: what is handed in stays, its spare room too; what is answered is new.
func TestNothingShared(t *testing.T) {
	l := []api.Cluster{to(0, 1, 1, 2), to(1, 2, 0, 1), to(2, 3, 2, 3)}
	was := slices.Clone(l)
	calls := map[string]func() []api.Cluster{
		"Finest":   func() []api.Cluster { r, _ := cluster.Finest(2, 2, l[:2]); return r },
		"Compose":  func() []api.Cluster { r, _ := cluster.Compose(l[:2], l[:2]); return r },
		"Turn":     func() []api.Cluster { return cluster.Turn(l[:2]) },
		"Identity": func() []api.Cluster { return cluster.Identity(2) },
	}
	for name, call := range calls {
		a, b := call(), call()
		again := slices.Clone(b)
		for i := range a {
			a[i] = to(7, 7, 7, 7)
		}
		if len(b) != 2 || !slices.Equal(b, again) || !slices.Equal(l, was) {
			t.Errorf("%s: %v, %v", name, b, l)
		}
	}
	if cluster.Check(l, 3, 3); !slices.Equal(l, was) {
		t.Errorf("Check: %v", l)
	}
}
