package weak_test

import (
	"math"
	"slices"
	"testing"

	"naskh/api"
	"naskh/weak"
)

// Classes in fewer words.
const (
	l   = api.L
	r   = api.R
	al  = api.AL
	en  = api.EN
	es  = api.ES
	et  = api.ET
	an  = api.AN
	cs  = api.CS
	nsm = api.NSM
	ws  = api.WS
	on  = api.ON
	lri = api.LRI
	rli = api.RLI
	fsi = api.FSI
	pdi = api.PDI
)

// noClasses are numbers beside those of classes, what ends in the bits of classes among them.
var noClasses = []int{-1, 23, 24, 0x100 + api.EN, 1<<32 + api.NSM, 1<<32 + api.AL, math.MinInt, math.MinInt + api.ET, math.MaxInt}

// rule is a call, one of those that take no sos among them.
type rule struct {
	name string
	call func(list []int, sos int) []int
	want func(list []int, sos int) []int
}

// without is a call that takes no sos.
func without(call func(list []int) []int) func(list []int, sos int) []int {
	return func(list []int, _ int) []int { return call(list) }
}

// rules are all calls, in their order.
func rules() []rule {
	return []rule{
		{"W1", weak.W1, want1}, {"W2", weak.W2, want2}, {"W3", without(weak.W3), want3}, {"W4", without(weak.W4), want4},
		{"W5", without(weak.W5), want5}, {"W6", without(weak.W6), want6}, {"W7", weak.W7, want7}, {"All", weak.All, wantAll},
	}
}

// every tells a list whose places are what f says of each.
func every(list []int, f func(at int) int) []int {
	var other []int
	for at := range list {
		other = append(other, f(at))
	}
	return other
}

// is says whether a class is one of some.
func is(class int, some ...int) bool { return slices.Contains(some, class) }

// last tells the last one of some in a list, or else sos.
func last(list []int, sos int, some ...int) int {
	for at := len(list) - 1; at >= 0; at-- {
		if is(list[at], some...) {
			return list[at]
		}
	}
	return sos
}

// want1 to want7, and wantAll, tell what the calls are to answer, each place looked at by itself.
func want1(list []int, sos int) []int {
	return every(list, func(at int) int {
		base := at
		for base >= 0 && list[base] == nsm {
			base--
		}
		row := at - base // so many marks stand behind what carries them
		switch {
		case base < 0 && is(sos, lri, rli, fsi, pdi) && row > 1: // the first mark is sos, and carries the second
			return on
		case base < 0:
			return sos
		case is(list[base], lri, rli, fsi, pdi) && row > 0:
			return on
		}
		return list[base]
	})
}

func want2(list []int, sos int) []int {
	return every(list, func(at int) int {
		if list[at] == en && last(list[:at], sos, l, r, al) == al {
			return an
		}
		return list[at]
	})
}

func want3(list []int, _ int) []int {
	return every(list, func(at int) int {
		if list[at] == al {
			return r
		}
		return list[at]
	})
}

func want4(list []int, _ int) []int {
	return every(list, func(at int) int {
		if at == 0 || at == len(list)-1 {
			return list[at]
		}
		three := list[at-1 : at+2]
		switch {
		case slices.Equal(three, []int{en, es, en}), slices.Equal(three, []int{en, cs, en}):
			return en
		case slices.Equal(three, []int{an, cs, an}):
			return an
		}
		return list[at]
	})
}

func want5(list []int, _ int) []int {
	return every(list, func(at int) int {
		lo, hi := at, at
		for lo >= 0 && list[lo] == et {
			lo--
		}
		for hi < len(list) && list[hi] == et {
			hi++
		}
		if list[at] == et && (lo >= 0 && list[lo] == en || hi < len(list) && list[hi] == en) {
			return en
		}
		return list[at]
	})
}

func want6(list []int, _ int) []int {
	return every(list, func(at int) int {
		if is(list[at], es, et, cs) {
			return on
		}
		return list[at]
	})
}

func want7(list []int, sos int) []int {
	return every(list, func(at int) int {
		if list[at] == en && last(list[:at], sos, l, r) == l {
			return l
		}
		return list[at]
	})
}

func wantAll(list []int, sos int) []int {
	for _, rule := range rules()[:7] {
		list = rule.want(list, sos)
	}
	return list
}

// check holds what each call answers against what it is to answer, and what All leaves against P24.2.
func check(t *testing.T, list []int, sos int) {
	t.Helper()
	before := slices.Clone(list)
	for _, rule := range rules() {
		got, want := rule.call(list, sos), rule.want(before, sos)
		if !slices.Equal(got, want) {
			t.Fatalf("%s(%v, %d): %v, asked for %v", rule.name, before, sos, got, want)
		}
		if !slices.Equal(list, before) {
			t.Fatalf("%s changes the classes %v to %v", rule.name, before, list)
		}
	}
	for _, class := range weak.All(list, sos) {
		if class != sos && is(class, al, nsm, es, et, cs) {
			t.Fatalf("All(%v, %d) leaves %d", list, sos, class)
		}
	}
}

// each calls f with every list of n of these.
func each(n int, items []int, f func(list []int)) {
	all := 1
	for range n {
		all *= len(items)
	}
	for which := range all {
		list := make([]int, n)
		for at := range list {
			list[at] = items[which%len(items)]
			which /= len(items)
		}
		f(list)
	}
}

// byHand is a list, what it begins behind, and what becomes of it.
type byHand struct {
	sos        int
	list, want []int
}

// tell holds a call against what is told by hand.
func tell(t *testing.T, call func(list []int, sos int) []int, tests []byHand) {
	t.Helper()
	for _, test := range append(tests, byHand{l, nil, nil}, byHand{r, []int{}, []int{}}) {
		if got := call(test.list, test.sos); !slices.Equal(got, test.want) {
			t.Errorf("%v behind %d: %v, asked for %v", test.list, test.sos, got, test.want)
		}
	}
}

func TestW1(t *testing.T) {
	tell(t, weak.W1, []byHand{
		{l, []int{al, nsm, nsm}, []int{al, al, al}},
		{r, []int{nsm}, []int{r}},
		{l, []int{nsm, nsm, r, nsm}, []int{l, l, r, r}},
		{l, []int{lri, nsm, nsm}, []int{lri, on, on}},
		{l, []int{rli, nsm}, []int{rli, on}},
		{l, []int{fsi, nsm}, []int{fsi, on}},
		{l, []int{pdi, nsm, en, nsm}, []int{pdi, on, en, en}},
		{l, []int{ws, nsm, api.B, nsm, api.S, nsm}, []int{ws, ws, api.B, api.B, api.S, api.S}},
		{l, []int{et, nsm, es, nsm, cs, nsm, an, nsm}, []int{et, et, es, es, cs, cs, an, an}},
		{l, []int{api.BN, nsm, api.PDF, nsm}, []int{api.BN, api.BN, api.PDF, api.PDF}},
		{pdi, []int{nsm, nsm}, []int{pdi, on}},
		{nsm, []int{nsm, nsm, l}, []int{nsm, nsm, l}},
		{-5, []int{nsm, 99, nsm}, []int{-5, 99, 99}},
	})
}

func TestW2(t *testing.T) {
	tell(t, weak.W2, []byHand{
		{l, []int{al, en}, []int{al, an}},
		{l, []int{al, on, en, en}, []int{al, on, an, an}},
		{l, []int{on, en}, []int{on, en}},
		{r, []int{on, en}, []int{on, en}},
		{al, []int{on, en}, []int{on, an}},
		{al, []int{en, r, en}, []int{an, r, en}},
		{al, []int{l, on, en}, []int{l, on, en}},
		{l, []int{r, on, en, al, en, r, en, l, en}, []int{r, on, en, al, an, r, en, l, en}},
		{l, []int{al, an, en, nsm, lri, en, pdi, en}, []int{al, an, an, nsm, lri, an, pdi, an}},
		{en, []int{en}, []int{en}},
	})
}

func TestW3(t *testing.T) {
	tell(t, without(weak.W3), []byHand{
		{l, []int{al, r, l, en, an, al}, []int{r, r, l, en, an, r}},
		{l, []int{on, nsm, es, et, cs, -2}, []int{on, nsm, es, et, cs, -2}},
	})
}

func TestW4(t *testing.T) {
	tell(t, without(weak.W4), []byHand{
		{l, []int{en, es, en}, []int{en, en, en}},
		{l, []int{en, cs, en}, []int{en, en, en}},
		{l, []int{an, cs, an}, []int{an, an, an}},
		{l, []int{an, es, an}, []int{an, es, an}},
		{l, []int{en, cs, an}, []int{en, cs, an}},
		{l, []int{an, cs, en}, []int{an, cs, en}},
		{l, []int{en, es, es, en}, []int{en, es, es, en}},
		{l, []int{en, cs, cs, en}, []int{en, cs, cs, en}},
		{l, []int{en, es, en, cs, en, es, l}, []int{en, en, en, en, en, es, l}},
		{l, []int{en, cs, en, es}, []int{en, en, en, es}},
		{l, []int{cs, en, es}, []int{cs, en, es}},
		{l, []int{en, et, en, on, en}, []int{en, et, en, on, en}},
		{l, []int{r, cs, r, l, es, l}, []int{r, cs, r, l, es, l}},
		{l, []int{en, es}, []int{en, es}},
		{l, []int{cs}, []int{cs}},
	})
}

func TestW5(t *testing.T) {
	tell(t, without(weak.W5), []byHand{
		{l, []int{et, et, en}, []int{en, en, en}},
		{l, []int{en, et, et}, []int{en, en, en}},
		{l, []int{an, et, en}, []int{an, en, en}},
		{l, []int{en, et, an}, []int{en, en, an}},
		{l, []int{an, et, et, an}, []int{an, et, et, an}},
		{l, []int{en, on, et, et}, []int{en, on, et, et}},
		{l, []int{et, on, en, et}, []int{et, on, en, en}},
		{l, []int{et, et, et, en, et, r, et, et}, []int{en, en, en, en, en, r, et, et}},
		{l, []int{et}, []int{et}},
		{l, []int{et, cs, en}, []int{et, cs, en}},
	})
}

func TestW6(t *testing.T) {
	tell(t, without(weak.W6), []byHand{
		{l, []int{an, et}, []int{an, on}},
		{l, []int{l, es, en}, []int{l, on, en}},
		{l, []int{en, cs, an}, []int{en, on, an}},
		{l, []int{al, nsm, ws, api.B, api.S, lri, pdi, 5 + 1<<40}, []int{al, nsm, ws, api.B, api.S, lri, pdi, 5 + 1<<40}},
	})
}

func TestW7(t *testing.T) {
	tell(t, weak.W7, []byHand{
		{r, []int{l, on, en}, []int{l, on, l}},
		{l, []int{r, on, en}, []int{r, on, en}},
		{l, []int{en, r, en}, []int{l, r, en}},
		{r, []int{en, l, en, en}, []int{en, l, l, l}},
		{r, []int{l, al, en}, []int{l, al, l}}, // an arabic letter is not what W7 looks for
		{al, []int{en, an}, []int{en, an}},
		{l, []int{an, en, lri, en}, []int{an, l, lri, l}},
	})
}

func TestAll(t *testing.T) {
	tell(t, weak.All, []byHand{
		{l, []int{al, en, nsm}, []int{r, an, an}},
		{l, []int{al, en, cs, en, et, nsm}, []int{r, an, an, an, on, on}},
		{l, []int{r, et, en, es, en}, []int{r, en, en, en, en}},
		{l, []int{et, en, es, en, et, nsm}, []int{l, l, l, l, l, l}},
		{r, []int{nsm, en, cs, nsm, en}, []int{r, en, on, on, en}},
		{l, []int{en, et, al, et, en}, []int{l, l, r, on, an}},
		{l, []int{lri, nsm, en, pdi, nsm}, []int{lri, on, l, pdi, on}},
		{al, []int{nsm, en, cs, en}, []int{r, an, an, an}},
		{es, []int{nsm, l}, []int{on, l}},
		{nsm, []int{nsm, r, nsm}, []int{nsm, r, r}},
	})
}

// TestEach goes through every list of a few classes, behind each direction.
func TestEach(t *testing.T) {
	items := []int{l, r, al, en, es, et, an, cs, nsm, on, lri, pdi}
	for n := range 5 {
		each(n, items, func(list []int) {
			for _, sos := range []int{l, r, al, nsm, et, pdi} {
				check(t, list, sos)
			}
		})
	}
	each(7, []int{l, al, en, et, cs}, func(list []int) { check(t, list, r) })
	each(7, []int{r, en, es, an, cs}, func(list []int) { check(t, list, l) })
	each(8, []int{en, et, nsm, r}, func(list []int) { check(t, list, l) })
}

// TestEachClass puts each class, and what is none, at every place of a short list and ahead of it.
func TestEachClass(t *testing.T) {
	all := slices.Clone(noClasses)
	for class := -2; class < 26; class++ {
		all = append(all, class)
	}
	for _, sos := range all {
		for _, class := range all {
			for _, around := range []int{l, al, en, an, nsm, et} {
				check(t, []int{class, around, class}, sos)
				check(t, []int{around, class, nsm, around, class, around, en}, sos)
			}
		}
	}
}

// TestMixed goes through long lists of all classes.
func TestMixed(t *testing.T) {
	number := uint32(5)
	next := func(n int) int {
		number = number*1664525 + 1013904223
		return int(number>>16) % n
	}
	for i := range 300 {
		list := make([]int, 300)
		for at := range list {
			if list[at] = next(25) - 1; next(8) > i%8 {
				list[at] = []int{en, es, et, cs, an, nsm, al}[next(7)]
			}
		}
		check(t, list, i%3)
	}
}

// TestLong goes through the longest texts, where each place hangs on one far away.
func TestLong(t *testing.T) {
	const n = api.MaxText
	row := func(ahead, class, behind int) []int {
		return slices.Concat([]int{ahead}, slices.Repeat([]int{class}, n-2), []int{behind})
	}
	all := func(name string, got []int, ahead, class, behind int) {
		if !slices.Equal(got, row(ahead, class, behind)) {
			t.Errorf("%s: another answer for %d places", name, n)
		}
	}
	all("W1", weak.W1(row(al, nsm, nsm), l), al, al, al)
	all("W2", weak.W2(row(al, en, l), l), al, an, l)
	all("W5", weak.W5(row(en, et, r)), en, en, r)
	all("W5", weak.W5(row(r, et, en)), r, en, en)
	all("W5", weak.W5(row(r, et, r)), r, et, r)
	all("W7", weak.W7(row(r, en, l), l), r, en, l)
	all("All", weak.All(row(nsm, et, en), l), l, l, l)
}

// TestOwnMemory changes what is answered, and asks again.
func TestOwnMemory(t *testing.T) {
	room := []int{nsm, al, en, cs, en, et, 77, 78}
	before := slices.Clone(room)
	list := room[:6]
	for _, rule := range rules() {
		got := rule.call(list, l)
		want := slices.Clone(got)
		for at := range got {
			got[at] = -9
		}
		_ = append(got, -8)
		if !slices.Equal(room, before) {
			t.Fatalf("%s shares what it is given: %v", rule.name, room)
		}
		if again := rule.call(list, l); !slices.Equal(again, want) {
			t.Errorf("%s: another answer: %v", rule.name, again)
		}
	}
}
