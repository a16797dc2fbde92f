package brack_test

import (
	"math"
	"slices"
	"testing"

	"naskh/api"
	"naskh/brack"
	"naskh/pairs"
)

// Classes in fewer words.
const (
	l   = api.L
	r   = api.R
	al  = api.AL
	en  = api.EN
	an  = api.AN
	nsm = api.NSM
	ws  = api.WS
	on  = api.ON
)

// noClasses are numbers beside those of classes, what ends in the bits of classes among them.
var noClasses = []int{-1, 23, 24, 0x100 + api.R, 1<<32 + api.ON, 1<<32 + api.L, math.MinInt, math.MinInt + api.R, math.MaxInt}

// places are numbers in a short list and around it.
var places = []int{math.MinInt, math.MinInt + 1, -2, -1, 0, 1, 2, 3, 4, 5, math.MaxInt - 1, math.MaxInt}

// direction tells the side of a level.
func direction(level int) int {
	if level%2 == 0 {
		return l
	}
	return r
}

// sides tells the sides of classes, without what has none.
func sides(classes ...int) []int {
	var all []int
	for _, class := range classes {
		switch class {
		case l:
			all = append(all, l)
		case r, en, an:
			all = append(all, r)
		}
	}
	return all
}

// begins says whether a place is an opening bracket, and ends whether it is a closing one.
func begins(codes, classes []int, at int) bool {
	kind, _ := pairs.Bracket(codes[at])
	return classes[at] == on && kind == 1
}

func ends(codes, classes []int, at int) bool {
	kind, _ := pairs.Bracket(codes[at])
	return classes[at] == on && kind == 2
}

// gone says whether an opening bracket is on the stack no more, by the pairs found till now.
func gone(found []api.Pair, at int) bool {
	return slices.ContainsFunc(found, func(p api.Pair) bool { return p.Open <= at && at < p.Close })
}

// wantFind tells what Find is to answer: of each closing bracket all opening ones are looked at anew.
func wantFind(codes, classes []int) []api.Pair {
	var found []api.Pair
	if len(codes) != len(classes) {
		return nil
	}
	for at := range codes {
		var open []int
		for ahead := range at {
			if begins(codes, classes, ahead) && !gone(found, ahead) {
				open = append(open, ahead)
			}
		}
		if begins(codes, classes, at) && len(open) == 63 {
			break
		}
		for len(open) > 0 && ends(codes, classes, at) {
			last := open[len(open)-1]
			if open = open[:len(open)-1]; pairs.Match(codes[last], codes[at]) {
				found = append(found, api.Pair{Open: last, Close: at})
				break
			}
		}
	}
	slices.SortFunc(found, func(a, b api.Pair) int { return a.Open - b.Open })
	return found
}

// wantInside tells what Inside is to answer, each place looked at by itself.
func wantInside(classes []int, p api.Pair, level int) (bool, bool) {
	var inside []int
	for at, class := range classes {
		if p.Open < at && at < p.Close {
			inside = append(inside, sides(class)...)
		}
	}
	return slices.Contains(inside, direction(level)), slices.Contains(inside, l+r-direction(level))
}

// wantN0 tells what N0 is to answer.
func wantN0(codes, classes, before []int, level, sos int) []int {
	now := slices.Clone(classes)
	if len(codes) != len(classes) || len(before) != len(classes) {
		return now
	}
	for _, p := range wantFind(codes, classes) {
		own, other := wantInside(now, p, level)
		ahead := slices.Concat([]int{direction(level)}, sides(sos), sides(now[:p.Open]...))
		side := ahead[len(ahead)-1]
		if own {
			side = direction(level)
		}
		for _, at := range []int{p.Open, p.Close} {
			marks := slices.IndexFunc(before[at+1:], func(class int) bool { return class != nsm })
			if marks < 0 {
				marks = len(before) - at - 1
			}
			if own || other {
				copy(now[at:], slices.Repeat([]int{side}, marks+1))
			}
		}
	}
	return now
}

// checkFind holds what Find answers against what it is to answer, and against P25.4.
func checkFind(t *testing.T, codes, classes []int) {
	t.Helper()
	got := brack.Find(codes, classes)
	if want := wantFind(codes, classes); !slices.Equal(got, want) {
		t.Fatalf("Find(%x, %v): %v, asked for %v", codes, classes, got, want)
	}
	for which, p := range got {
		for _, q := range got[which+1:] {
			if apart, within := p.Close < q.Open, p.Open < q.Open && q.Close < p.Close; !apart && !within {
				t.Fatalf("Find(%x, %v): %v and %v", codes, classes, p, q)
			}
		}
	}
}

// checkN0 holds what N0 answers against what it is to answer.
func checkN0(t *testing.T, codes, classes, before []int, level, sos int) {
	t.Helper()
	got, want := brack.N0(codes, classes, before, level, sos), wantN0(codes, classes, before, level, sos)
	if !slices.Equal(got, want) {
		t.Fatalf("N0(%x, %v, %v, %d, %d): %v, asked for %v", codes, classes, before, level, sos, got, want)
	}
}

// each calls f with every list of n numbers below some.
func each(n, some int, f func(list []int)) {
	all := 1
	for range n {
		all *= some
	}
	for which := range all {
		list := make([]int, n)
		for at := range list {
			list[at] = which % some
			which /= some
		}
		f(list)
	}
}

// row tells pairs of places that stand side by side.
func row(places ...int) []api.Pair {
	var all []api.Pair
	for at := 0; at < len(places); at += 2 {
		all = append(all, api.Pair{Open: places[at], Close: places[at+1]})
	}
	return all
}

// text tells the codes of letters, and their classes: what is no letter of a direction is neutral.
func text(s string) ([]int, []int) {
	classes := map[rune]int{'a': l, 'R': r, 'A': al, '1': en, '9': an}
	var codes, of []int
	for _, code := range s {
		class, ok := classes[code]
		if !ok {
			class = on
		}
		codes, of = append(codes, int(code)), append(of, class)
	}
	return codes, of
}

func TestFind(t *testing.T) {
	for _, test := range []struct {
		text string
		want []api.Pair
	}{
		{"", nil},
		{"a", nil},
		{"()", row(0, 1)},
		{")(", nil},
		{"(a]b)", row(0, 4)},
		{"a(b)c)d", row(1, 3)},
		{"a(b]c", nil},
		{"a(b[c)d]", row(1, 5)},
		{"a(b]c)d", row(1, 5)},
		{"a(b(c)d)", row(1, 7, 3, 5)},
		{"a(b(c)d", row(3, 5)},
		{"a(b{c}d)", row(1, 7, 3, 5)},
		{"([{}])", row(0, 5, 1, 4, 2, 3)},
		{"([)]()", row(0, 2, 4, 5)},
		{"(((]))", row(1, 5, 2, 4)},
		{"<>«»\u201c\u201d", nil},
		{"\u2329\u3009\u3008\u232a", row(0, 1, 2, 3)},
		{"\u3008(\u2329)\u232a\u3009", row(0, 4, 1, 3)},
		{"\uff08)(\uff09", row(0, 3)},
	} {
		codes, classes := text(test.text)
		if got := brack.Find(codes, classes); !slices.Equal(got, test.want) {
			t.Errorf("%q: %v, asked for %v", test.text, got, test.want)
		}
		checkFind(t, codes, classes)
	}
}

// TestFindClasses has brackets of each class, and of what is none: only neutral ones are looked at.
func TestFindClasses(t *testing.T) {
	all := slices.Clone(noClasses)
	for class := range 23 {
		all = append(all, class)
	}
	for _, class := range all {
		var one, two []api.Pair
		if class == on {
			one, two = row(0, 3, 1, 2), row(0, 1, 2, 3)
		} else {
			one, two = row(0, 3), row(0, 3)
		}
		if got := brack.Find([]int{'(', '(', ')', ')'}, []int{on, class, class, on}); !slices.Equal(got, one) {
			t.Errorf("class %d within: %v", class, got)
		}
		if got := brack.Find([]int{'(', ')', '(', ')'}, []int{on, class, class, on}); !slices.Equal(got, two) {
			t.Errorf("class %d between: %v", class, got)
		}
		if got := brack.Find([]int{'(', ')'}, []int{on, class}); len(got) > 0 && class != on {
			t.Errorf("class %d at the end: %v", class, got)
		}
	}
}

// TestFindCodes goes through all brackets, each with each, and through codes that are none.
func TestFindCodes(t *testing.T) {
	var codes []int
	for _, p := range api.Brackets() {
		codes = append(codes, p.Open, p.Close)
	}
	codes = append(codes, -1, 0, 0x3C, 0x3E, 0xAB, 0xD800, api.MaxCode, api.IllBase+0x28, 1<<32+0x28, 1<<32+0x29, math.MinInt, math.MaxInt)
	for _, a := range codes {
		for _, b := range codes {
			checkFind(t, []int{a, b}, []int{on, on})
			checkFind(t, []int{'(', a, 'x', b, ')'}, []int{on, on, on, on, on})
			if got := brack.Find([]int{a, b}, []int{on, on}); (len(got) == 1) != pairs.Match(a, b) {
				t.Errorf("Find of %x, %x: %v", a, b, got)
			}
		}
	}
}

// TestFindDeep goes around the most brackets that can be open.
func TestFindDeep(t *testing.T) {
	nested := func(n int) ([]int, []int) {
		codes := slices.Concat([]int{'[', ']'}, slices.Repeat([]int{'('}, n), slices.Repeat([]int{')'}, n), []int{'[', ']'})
		return codes, slices.Repeat([]int{on}, len(codes))
	}
	for n := 60; n < 68; n++ {
		codes, classes := nested(n)
		checkFind(t, codes, classes)
		got, want := len(brack.Find(codes, classes)), n+2
		if n > 63 {
			want = 1 // what was found ahead of the one that is too deep
		}
		if got != want {
			t.Errorf("%d deep: %d pairs, asked for %d", n, got, want)
		}
	}
	deep := slices.Repeat([]int{'('}, 63)
	for _, test := range []struct {
		behind []int
		want   int
	}{
		{[]int{')', '(', ')', ')'}, 3},
		{[]int{'x', ']', ')'}, 1},
		{[]int{')', '(', '(', ')', ')'}, 1},
		{[]int{'(', ')', ')', '[', ']'}, 0},
		{[]int{'[', ')'}, 0},
	} {
		codes := slices.Concat(deep, test.behind)
		classes := slices.Repeat([]int{on}, len(codes))
		checkFind(t, codes, classes)
		if got := brack.Find(codes, classes); len(got) != test.want {
			t.Errorf("63 and %x: %v", test.behind, got)
		}
	}
	codes, classes := slices.Concat(deep, []int{'(', ')'}), slices.Repeat([]int{on}, 65)
	if classes[63] = l; len(brack.Find(codes, classes)) != 1 {
		t.Error("a bracket that is not neutral is too deep")
	}
}

// TestFindEach goes through every text of a few brackets, with some of them not neutral.
func TestFindEach(t *testing.T) {
	codes := []int{'(', ')', '[', ']', '(', ')', 0x2329, 0x3009}
	classes := []int{on, on, on, on, l, ws, on, on}
	for n := range 7 {
		each(n, len(codes), func(list []int) {
			text, of := make([]int, n), make([]int, n)
			for at, which := range list {
				text[at], of[at] = codes[which], classes[which]
			}
			checkFind(t, text, of)
		})
	}
}

func TestInside(t *testing.T) {
	for _, test := range []struct {
		list       []int
		p          api.Pair
		level      int
		own, other bool
	}{
		{[]int{on, l, on}, api.Pair{Open: 0, Close: 2}, 0, true, false},
		{[]int{on, l, on}, api.Pair{Open: 0, Close: 2}, 1, false, true},
		{[]int{on, r, on}, api.Pair{Open: 0, Close: 2}, 0, false, true},
		{[]int{on, en, on}, api.Pair{Open: 0, Close: 2}, 1, true, false},
		{[]int{on, an, on}, api.Pair{Open: 0, Close: 2}, 2, false, true},
		{[]int{on, al, nsm, ws, on}, api.Pair{Open: 0, Close: 4}, 1, false, false},
		{[]int{on, l, r, on}, api.Pair{Open: 0, Close: 3}, 0, true, true},
		{[]int{on, r, l, on}, api.Pair{Open: 0, Close: 3}, 1, true, true},
		{[]int{l, on, on, l}, api.Pair{Open: 1, Close: 2}, 0, false, false},
		{[]int{l, on, on, l}, api.Pair{Open: 0, Close: 3}, 0, false, false},
		{[]int{r, on, on, l}, api.Pair{Open: -1, Close: 4}, 0, true, true},
		{[]int{on, r, on, l}, api.Pair{Open: 0, Close: 3}, -1, true, false},
		{[]int{on, r, on, l}, api.Pair{Open: 0, Close: 3}, -2, false, true},
		{[]int{l, l, l}, api.Pair{Open: 2, Close: 0}, 0, false, false},
		{[]int{l, l, l}, api.Pair{Open: 1, Close: 1}, 0, false, false},
		{nil, api.Pair{Open: -1, Close: 1}, 0, false, false},
	} {
		own, other := brack.Inside(test.list, test.p, test.level)
		if own != test.own || other != test.other {
			t.Errorf("Inside(%v, %v, %d): %v, %v", test.list, test.p, test.level, own, other)
		}
	}
}

// TestInsideEach goes through every short list of sides, and of what has none, between any places.
func TestInsideEach(t *testing.T) {
	items := []int{l, r, en, an, al, on}
	for n := range 5 {
		each(n, len(items), func(list []int) {
			for at, which := range list {
				list[at] = items[which]
			}
			for _, open := range places {
				for _, end := range places {
					for _, level := range []int{0, 1, -1} {
						p := api.Pair{Open: open, Close: end}
						own, other := brack.Inside(list, p, level)
						if a, b := wantInside(list, p, level); own != a || other != b {
							t.Fatalf("Inside(%v, %v, %d): %v, %v", list, p, level, own, other)
						}
					}
				}
			}
		})
	}
}

// TestInsideClass asks each class, and what is none, at levels of all kinds.
func TestInsideClass(t *testing.T) {
	for _, class := range append(slices.Clone(noClasses), 0, 1, 2, 3, 4, 5, 6, 7, 8, 9, 10, 11, 12, 13, 14, 15, 16, 17, 18, 19, 20, 21, 22) {
		left, right := class == l, class == r || class == en || class == an
		for _, level := range []int{0, 1, 2, 3, 124, 125, 126, -1, -2, math.MinInt, math.MinInt + 1, math.MaxInt - 1, math.MaxInt} {
			own, other := brack.Inside([]int{on, class, on}, api.Pair{Open: 0, Close: 2}, level)
			if level%2 != 0 {
				own, other = other, own
			}
			if own != left || other != right {
				t.Errorf("class %d at level %d: left %v, right %v", class, level, own, other)
			}
		}
	}
}

func TestN0(t *testing.T) {
	for _, test := range []struct {
		text       string
		marks      []int // the places of marks
		level, sos int
		want       []int
	}{
		{"(a)", nil, 0, l, []int{l, l, l}},
		{"(R)", nil, 0, l, []int{l, r, l}}, // of the other side, and so is nothing ahead
		{"(R)", nil, 0, r, []int{r, r, r}}, // as sos
		{"(a)", nil, 1, r, []int{r, l, r}},
		{"(a)", nil, 1, l, []int{l, l, l}},
		{"(R)", nil, 0, en, []int{r, r, r}}, // sos has a side
		{"(R)", nil, 0, al, []int{l, r, l}}, // sos has none: the level's
		{"(a)", nil, 1, on, []int{r, l, r}},
		{"a(R)", nil, 0, r, []int{l, l, r, l}},
		{"R(R)", nil, 0, l, []int{r, r, r, r}},
		{"R(Ra)", nil, 0, l, []int{r, l, r, l, l}}, // the level's side inside
		{"R(aR)", nil, 0, l, []int{r, l, l, r, l}},
		{"a(a)", nil, 1, r, []int{l, l, l, l}},
		{"R(a)", nil, 1, l, []int{r, r, l, r}},
		{"1(R)", nil, 0, l, []int{en, r, r, r}},
		{"9(1)", nil, 0, l, []int{an, r, en, r}},
		{"A!(R)", nil, 0, l, []int{al, on, l, r, l}},
		{"R a!(R)", nil, 0, l, []int{r, on, l, on, l, r, l}},
		{"a R!(R)", nil, 0, l, []int{l, on, r, on, r, r, r}},
		{"R()", nil, 1, r, []int{r, on, on}},
		{"R(!A)", nil, 1, r, []int{r, on, on, al, on}},
		{"a(R[a)R]", nil, 0, l, []int{l, l, r, on, l, l, r, on}},
		{"R(a[R])", nil, 0, l, []int{r, l, l, l, r, l, l}}, // the outer one first: its opening bracket is ahead of the inner one
		{"R([a]R)", nil, 1, l, []int{r, r, r, l, r, r, r}},
		{"a[(R)]", nil, 0, r, []int{l, l, l, r, l, l}},
		{"R[(R)]a", nil, 0, l, []int{r, r, r, r, r, r, l}},
		{"(R)(R)", nil, 0, r, []int{r, r, r, r, r, r}},
		{"R(R)(a)(R)", nil, 0, l, []int{r, r, r, r, l, l, l, l, r, l}},
		{"(a)!!", []int{3, 4}, 0, l, []int{l, l, l, l, l}},
		{"(a)!!", []int{4}, 0, l, []int{l, l, l, on, on}},
		{"(!a)!x", []int{1, 4}, 0, l, []int{l, l, l, l, l, on}},
		{"(!!R)!", []int{1, 2, 5}, 1, l, []int{r, r, r, r, r, r}},
		{"(!)!", []int{1, 3}, 1, l, []int{on, on, on, on}}, // stays, and so do its marks
		{"(a!)!", []int{2}, 0, l, []int{l, l, on, l, on}},  // a mark on another code
		{"R(a)!", []int{4}, 1, r, []int{r, r, l, r, r}},
		{"a(R)R", []int{4}, 0, l, []int{l, l, r, l, l}}, // a mark of whatever class
		{"(!)a)", []int{1}, 0, l, []int{on, on, on, l, on}},
		{"[(a])", []int{1}, 0, l, []int{l, l, l, l, on}},
		{"(a)R(R)", []int{3}, 0, r, []int{l, l, l, l, l, r, l}}, // the mark is a side by the time of the second pair
		{"([R])", []int{1, 2}, 1, r, []int{r, r, r, r, r}},
	} {
		codes, classes := text(test.text)
		before := slices.Clone(classes)
		for _, at := range test.marks {
			before[at] = nsm
		}
		if got := brack.N0(codes, classes, before, test.level, test.sos); !slices.Equal(got, test.want) {
			t.Errorf("%q, marks %v, level %d, sos %d: %v, asked for %v", test.text, test.marks, test.level, test.sos, got, test.want)
		}
		checkN0(t, codes, classes, before, test.level, test.sos)
	}
}

// TestN0Marks has two brackets that were marks in one row, of which the inner pair is of another side.
func TestN0Marks(t *testing.T) {
	// The outer pair is R, and so is what stands on it, the inner brackets too; then these are what is inside of them.
	codes := []int{'(', '[', 'x', ']', 'y', ')'}
	got := brack.N0(codes, []int{on, on, l, on, r, on}, []int{on, nsm, l, nsm, r, on}, 1, r)
	if want := []int{r, r, l, r, r, r}; !slices.Equal(got, want) {
		t.Errorf("%v, asked for %v", got, want)
	}
	// Behind R, at level 0: both pairs hold R alone, the inner one's marks go to the end of the row.
	got = brack.N0([]int{'(', 'x', ')', '[', 'y', ']', 'z'}, []int{on, r, on, on, l, on, on}, []int{on, r, on, nsm, nsm, nsm, nsm}, 0, r)
	if want := []int{r, r, r, r, r, r, r}; !slices.Equal(got, want) {
		t.Errorf("%v, asked for %v", got, want)
	}
}

// TestN0Lengths hands lists of different lengths in.
func TestN0Lengths(t *testing.T) {
	full, classes := []int{'(', 'a', ')', ' '}, []int{on, l, on, on}
	for codes := range 5 {
		for of := range 5 {
			for before := range 5 {
				got := brack.N0(full[:codes], classes[:of], classes[:before], 0, l)
				want := slices.Clone(classes[:of])
				if codes == of && before == of && of > 2 {
					want[0], want[2] = l, l
				}
				if !slices.Equal(got, want) {
					t.Errorf("%d codes, %d classes, %d before: %v", codes, of, before, got)
				}
			}
			if got := brack.Find(full[:codes], classes[:of]); (len(got) == 1) != (codes == of && of > 2) {
				t.Errorf("%d codes, %d classes: %v", codes, of, got)
			}
		}
	}
}

// TestN0Each goes through every text of a few codes, some of them marks, at both levels, behind all kinds of sos.
func TestN0Each(t *testing.T) {
	codes := []int{'(', ')', 'a', 'b', '(', '[', ']', 'c'}
	classes := []int{on, on, l, r, on, on, on, on}
	before := []int{on, on, l, r, nsm, on, nsm, nsm}
	for _, part := range []struct{ n, some int }{{0, 8}, {1, 8}, {2, 8}, {3, 8}, {4, 8}, {5, 8}, {6, 5}, {7, 4}} {
		each(part.n, part.some, func(list []int) {
			text, of, was := make([]int, part.n), make([]int, part.n), make([]int, part.n)
			for at, which := range list {
				text[at], of[at], was[at] = codes[which], classes[which], before[which]
			}
			for _, sos := range []int{l, r, on} {
				checkN0(t, text, of, was, 0, sos)
				checkN0(t, text, of, was, 1, sos)
			}
		})
	}
}

// TestMixed goes through long texts of brackets of all kinds, classes, and marks.
func TestMixed(t *testing.T) {
	number := uint32(9)
	next := func(n int) int {
		number = number*1664525 + 1013904223
		return int(number>>16) % n
	}
	brackets := []int{'(', ')', '[', ']', '{', '}', 0x2329, 0x3009, 0x3008, 0x232A, '<', 'a'}
	for i := range 300 {
		n := 20 + next(120)
		codes, classes, before := make([]int, n), make([]int, n), make([]int, n)
		for at := range codes {
			codes[at] = brackets[next(len(brackets))]
			if classes[at] = on; next(12) < i%12 {
				classes[at] = next(25) - 1
			}
			if before[at] = classes[at]; next(4) == 0 {
				before[at] = nsm
			}
		}
		checkFind(t, codes, classes)
		level, sos := next(7)-3, next(25)-1
		checkN0(t, codes, classes, before, level, sos)
		p := api.Pair{Open: next(n), Close: next(n)}
		own, other := brack.Inside(classes, p, level)
		if a, b := wantInside(classes, p, level); own != a || other != b {
			t.Fatalf("Inside(%v, %v, %d): %v, %v", classes, p, level, own, other)
		}
	}
}

// TestLong goes through the longest texts: pairs side by side, within one another, without an end, and of marks.
func TestLong(t *testing.T) {
	const n = api.MaxText
	neutral := slices.Repeat([]int{on}, n)
	codes := slices.Repeat([]int{'(', ')'}, n/2)
	if got := brack.Find(codes, neutral); len(got) != n/2 || got[n/2-1] != (api.Pair{Open: n - 2, Close: n - 1}) {
		t.Errorf("%d pairs side by side", len(got))
	}
	if got := brack.N0(codes, neutral, neutral, 1, r); !slices.Equal(got, neutral) {
		t.Error("empty pairs became something")
	}
	deep := slices.Concat(slices.Repeat([]int{'('}, 63), slices.Repeat([]int{'x'}, n-126), slices.Repeat([]int{')'}, 63))
	classes := slices.Repeat([]int{on}, n)
	classes[n/2] = r
	want := slices.Concat(slices.Repeat([]int{r}, 63), classes[63:n-63], slices.Repeat([]int{r}, 63))
	if got := brack.N0(deep, classes, classes, 0, r); !slices.Equal(got, want) {
		t.Error("deep pairs: another answer")
	}
	three := slices.Repeat([]int{'[', 'x', ']'}, n/3)
	classes, marks := slices.Repeat([]int{on, l, on}, n/3), slices.Repeat([]int{nsm}, n/3*3)
	if got := brack.N0(three, classes, marks, 0, r); !slices.Equal(got, make([]int, n/3*3)) { // all are L
		t.Error("a row of marks: another answer")
	}
	if got := brack.Find(slices.Repeat([]int{'('}, n), neutral); len(got) > 0 {
		t.Errorf("%d pairs of what opens alone", len(got))
	}
}

// TestOwnMemory changes what is answered, and asks again.
func TestOwnMemory(t *testing.T) {
	room := [][]int{{'(', 'a', ')', 'b', '[', ']', 77}, {on, l, on, on, on, on, 78}, {on, l, on, nsm, on, on, nsm}}
	kept := [][]int{slices.Clone(room[0]), slices.Clone(room[1]), slices.Clone(room[2])}
	codes, classes, before := room[0][:6], room[1][:6], room[2][:6]
	for _, short := range []int{0, 1} { // as many of each, and not
		got := brack.N0(codes[short:], classes, before, 0, l)
		want := slices.Clone(got)
		for at := range got {
			got[at] = -9
		}
		_ = append(got, -8)
		if again := brack.N0(codes[short:], classes, before, 0, l); !slices.Equal(again, want) {
			t.Errorf("N0: another answer: %v", again)
		}
	}
	found := brack.Find(codes, classes)
	found[0], found[1] = api.Pair{}, api.Pair{}
	_ = append(found, api.Pair{Open: 7, Close: 8})
	if again := brack.Find(codes, classes); !slices.Equal(again, []api.Pair{{Open: 0, Close: 2}, {Open: 4, Close: 5}}) {
		t.Errorf("Find: another answer: %v", again)
	}
	brack.Inside(classes, api.Pair{Open: 0, Close: 2}, 0)
	for which, list := range room {
		if !slices.Equal(list, kept[which]) {
			t.Fatalf("shares what it is given: %v", list)
		}
	}
}
