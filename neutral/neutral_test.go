package neutral_test

import (
	"math"
	"slices"
	"testing"

	"naskh/api"
	"naskh/brack"
	"naskh/explicit"
	"naskh/neutral"
	"naskh/para"
	"naskh/seq"
	"naskh/weak"
)

// Classes in fewer words.
const (
	l   = api.L
	r   = api.R
	al  = api.AL
	en  = api.EN
	an  = api.AN
	nsm = api.NSM
	bn  = api.BN
	b   = api.B
	s   = api.S
	ws  = api.WS
	on  = api.ON
	lri = api.LRI
	rli = api.RLI
	fsi = api.FSI
	pdi = api.PDI
)

// noClasses are numbers beside those of classes, what ends in the bits of classes among them.
var noClasses = []int{-1, 23, 24, 0x100 + api.R, 1<<32 + api.ON, 1<<32 + api.L, math.MinInt, math.MinInt + api.B, math.MaxInt}

// allClasses tells each class, and what is none.
func allClasses() []int {
	all := slices.Clone(noClasses)
	for class := range 23 {
		all = append(all, class)
	}
	return all
}

// isNeutral says which classes are to be neutral.
func isNeutral(class int) bool {
	return slices.Contains([]int{b, s, ws, on, lri, rli, fsi, pdi}, class)
}

// sideOf tells the side of a class, ON of what has none.
func sideOf(class int) int {
	switch class {
	case l:
		return l
	case r, en, an:
		return r
	}
	return on
}

// every tells a list whose places are what f says of each.
func every(list []int, f func(at int) int) []int {
	var other []int
	for at := range list {
		other = append(other, f(at))
	}
	return other
}

// wantN1 and wantN2 tell what the calls are to answer, each place looked at by itself.
func wantN1(list []int, sos, eos int) []int {
	around := slices.Concat([]int{sos}, list, []int{eos})
	return every(list, func(at int) int {
		lo, hi := at, at+2 // in around
		for lo > 0 && isNeutral(around[lo]) {
			lo--
		}
		for hi < len(around)-1 && isNeutral(around[hi]) {
			hi++
		}
		if side := sideOf(around[lo]); isNeutral(list[at]) && side != on && side == sideOf(around[hi]) {
			return side
		}
		return list[at]
	})
}

func wantN2(list []int, level int) []int {
	return every(list, func(at int) int {
		switch {
		case !isNeutral(list[at]):
			return list[at]
		case level%2 == 0:
			return l
		}
		return r
	})
}

// wantImplicit tells what Implicit is to answer of a level that is not near the greatest number.
func wantImplicit(class, level int) int {
	more := map[int][2]int{l: {0, 1}, r: {1, 0}, en: {2, 1}, an: {2, 1}}
	return level + more[class][level&1]
}

// wantLevels tells what Levels is to answer, step by step as the promise says.
func wantLevels(codes, classes []int, direction int) (int, []int) {
	if len(codes) != len(classes) {
		return 0, nil
	}
	level := para.Level(classes, direction)
	levels, goOn := explicit.Levels(classes, level)
	told := map[int]int{}
	for _, q := range seq.Sequences(levels, goOn, classes, level) {
		var some, list []int
		for _, at := range q.At {
			some, list = append(some, codes[at]), append(list, goOn[at])
		}
		now := wantN2(wantN1(brack.N0(some, weak.All(list, q.Sos), list, q.Level, q.Sos), q.Sos, q.Eos), q.Level)
		for which, at := range q.At {
			told[at] = wantImplicit(now[which], q.Level)
		}
	}
	return level, every(classes, func(at int) int {
		for ; at >= 0; at-- {
			if it, ok := told[at]; ok {
				return it
			}
		}
		return level
	})
}

// checkRows holds what N1 and N2 answer against what they are to answer.
func checkRows(t *testing.T, list []int, sos, eos, level int) {
	t.Helper()
	before := slices.Clone(list)
	if got, want := neutral.N1(list, sos, eos), wantN1(before, sos, eos); !slices.Equal(got, want) {
		t.Fatalf("N1(%v, %d, %d): %v, asked for %v", before, sos, eos, got, want)
	}
	if got, want := neutral.N2(list, level), wantN2(before, level); !slices.Equal(got, want) {
		t.Fatalf("N2(%v, %d): %v, asked for %v", before, level, got, want)
	}
	if !slices.Equal(list, before) {
		t.Fatalf("the classes %v changed to %v", before, list)
	}
}

// checkLevels holds what Levels answers against what it is to answer, and against P26.3.
func checkLevels(t *testing.T, codes, classes []int, direction int) {
	t.Helper()
	level, levels := neutral.Levels(codes, classes, direction)
	if wantLevel, want := wantLevels(codes, classes, direction); level != wantLevel || !slices.Equal(levels, want) {
		t.Fatalf("Levels(%x, %v, %d): %d %v, asked for %d %v", codes, classes, direction, level, levels, wantLevel, want)
	}
	for _, one := range levels {
		if one < level || one > 126 {
			t.Fatalf("Levels(%x, %v, %d): %d %v", codes, classes, direction, level, levels)
		}
	}
}

// each calls f with every list of n of these.
func each(n int, items []int, f func(list []int)) {
	all := 1
	for range n {
		all *= len(items)
	}
	for which := range all {
		list := make([]int, n)
		for at := range list {
			list[at] = items[which%len(items)]
			which /= len(items)
		}
		f(list)
	}
}

// classOf tells the class of a letter that stands for it.
func classOf(letter rune) int {
	return map[rune]int{
		'a': l, 'R': r, 'A': al, '1': en, '+': api.ES, '$': api.ET, '9': an, ',': api.CS, '~': nsm, '_': bn, 'B': b, 'S': s, ' ': ws,
		'l': api.LRE, 'L': api.LRO, 'r': api.RLE, 'O': api.RLO, 'p': api.PDF, 'i': lri, 'I': rli, 'f': fsi, 'P': pdi,
		'!': on, '(': on, ')': on, '[': on, ']': on,
	}[letter]
}

// text tells letters as codes, and the classes that they stand for.
func text(letters string) ([]int, []int) {
	var codes, classes []int
	for _, letter := range letters {
		codes, classes = append(codes, int(letter)), append(classes, classOf(letter))
	}
	return codes, classes
}

func TestNeutral(t *testing.T) {
	for _, class := range allClasses() {
		if got := neutral.Neutral(class); got != isNeutral(class) {
			t.Errorf("class %d: %v", class, got)
		}
	}
}

func TestN1(t *testing.T) {
	for _, test := range []struct {
		list     []int
		sos, eos int
		want     []int
	}{
		{nil, l, r, nil},
		{[]int{on}, l, l, []int{l}},
		{[]int{on}, r, r, []int{r}},
		{[]int{on}, l, r, []int{on}},
		{[]int{on}, r, l, []int{on}},
		{[]int{ws, on, s}, r, r, []int{r, r, r}},
		{[]int{b, lri, rli, fsi, pdi}, l, l, []int{l, l, l, l, l}},
		{[]int{l, on, l}, r, r, []int{l, l, l}},
		{[]int{r, on, ws, r}, l, l, []int{r, r, r, r}},
		{[]int{r, on, en}, l, l, []int{r, r, en}},
		{[]int{an, on, en}, l, l, []int{an, r, en}},
		{[]int{en, on, an, on, r}, l, l, []int{en, r, an, r, r}},
		{[]int{l, on, r}, l, l, []int{l, on, r}},
		{[]int{l, on, en}, l, l, []int{l, on, en}},
		{[]int{en, on, l}, l, l, []int{en, on, l}},
		{[]int{on, r, on}, r, l, []int{r, r, on}},
		{[]int{on, r, on}, l, r, []int{on, r, r}},
		{[]int{on, l, on, r, on, r, on}, l, l, []int{l, l, on, r, r, r, on}},
		{[]int{al, on, al}, l, l, []int{al, on, al}},     // neither has a side
		{[]int{nsm, ws, nsm}, r, r, []int{nsm, ws, nsm}}, // nor have marks
		{[]int{al, on, r, on, bn}, r, r, []int{al, on, r, on, bn}},
		{[]int{on, on}, en, an, []int{r, r}},
		{[]int{on}, en, r, []int{r}},
		{[]int{on}, al, al, []int{on}},
		{[]int{on}, on, on, []int{on}},
		{[]int{on}, -7, -7, []int{on}},
		{[]int{23, on, 23}, l, l, []int{23, on, 23}},
	} {
		if got := neutral.N1(test.list, test.sos, test.eos); !slices.Equal(got, test.want) {
			t.Errorf("N1(%v, %d, %d): %v, asked for %v", test.list, test.sos, test.eos, got, test.want)
		}
	}
}

func TestN2(t *testing.T) {
	list := []int{on, l, ws, r, b, s, en, lri, rli, an, fsi, pdi, al, nsm, bn, on}
	left := []int{l, l, l, r, l, l, en, l, l, an, l, l, al, nsm, bn, l}
	right := []int{r, l, r, r, r, r, en, r, r, an, r, r, al, nsm, bn, r}
	for _, level := range []int{0, 2, 124, 126, -2, math.MinInt, math.MaxInt - 1} {
		if got := neutral.N2(list, level); !slices.Equal(got, left) {
			t.Errorf("level %d: %v", level, got)
		}
		if level == math.MinInt {
			continue
		}
		if got := neutral.N2(list, level-1); !slices.Equal(got, right) {
			t.Errorf("level %d: %v", level-1, got)
		}
	}
	if got := neutral.N2(list, math.MaxInt); !slices.Equal(got, right) {
		t.Errorf("the greatest level: %v", got)
	}
	if got := neutral.N2(nil, 1); len(got) > 0 {
		t.Errorf("of nothing: %v", got)
	}
}

// TestRows goes through every list of a few classes between all kinds of ends, and puts each class at every place.
func TestRows(t *testing.T) {
	for n := range 6 {
		each(n, []int{l, r, en, an, al, on, ws, pdi}, func(list []int) {
			for _, sos := range []int{l, r, an, on} {
				checkRows(t, list, sos, l, 0)
				checkRows(t, list, sos, r, 1)
			}
		})
	}
	for _, class := range allClasses() {
		for _, other := range allClasses() {
			checkRows(t, []int{class}, other, class, 1)
			checkRows(t, []int{on, class, on}, class, other, 0)
			checkRows(t, []int{class, other, class, on, other}, other, other, -1)
			checkRows(t, []int{other, class, on, class, other, other, on, class}, l, r, -2)
		}
	}
}

func TestImplicit(t *testing.T) {
	for _, class := range allClasses() {
		for level := -5; level < 130; level++ {
			if got, want := neutral.Implicit(class, level), wantImplicit(class, level); got != want {
				t.Errorf("Implicit(%d, %d): %d, asked for %d", class, level, got, want)
			}
		}
	}
	for _, test := range []struct{ class, level, want int }{
		{l, 0, 0}, {r, 0, 1}, {an, 0, 2}, {en, 0, 2}, {l, 1, 2}, {r, 1, 1}, {an, 1, 2}, {en, 1, 2}, {al, 0, 0}, {on, 1, 1}, {nsm, 2, 2},
		{r, 124, 125}, {en, 124, 126}, {l, 125, 126}, {r, math.MinInt, math.MinInt + 1}, {an, math.MinInt, math.MinInt + 2},
		{l, math.MinInt + 1, math.MinInt + 2}, {r, math.MaxInt - 1, math.MaxInt}, {en, math.MaxInt - 3, math.MaxInt - 1},
		{an, math.MaxInt - 1, math.MaxInt - 1}, {en, math.MaxInt - 1, math.MaxInt - 1}, {l, math.MaxInt - 1, math.MaxInt - 1},
		{l, math.MaxInt, math.MaxInt}, {en, math.MaxInt, math.MaxInt}, {an, math.MaxInt, math.MaxInt}, {r, math.MaxInt, math.MaxInt},
		{en, math.MaxInt - 2, math.MaxInt - 1},
	} {
		if got := neutral.Implicit(test.class, test.level); got != test.want {
			t.Errorf("Implicit(%d, %d): %d, asked for %d", test.class, test.level, got, test.want)
		}
	}
}

func TestLevels(t *testing.T) {
	for _, test := range []struct {
		text      string
		direction int
		level     int
		want      []int
	}{
		{"", api.DirLeft, 0, nil},
		{"", api.DirRight, 1, nil},
		{"", api.DirFirstRight, 1, nil},
		{"aA1", api.DirLeft, 0, []int{0, 1, 2}},
		{"aaa", api.DirLeft, 0, []int{0, 0, 0}},
		{"aaa", api.DirRight, 1, []int{2, 2, 2}},
		{"RAR", api.DirLeft, 0, []int{1, 1, 1}},
		{"a R! a", api.DirLeft, 0, []int{0, 0, 1, 0, 0, 0}},
		{"R! R", api.DirLeft, 0, []int{1, 1, 1, 1}},
		{"R 1", api.DirLeft, 0, []int{1, 1, 2}},
		{"1 R", api.DirLeft, 0, []int{0, 0, 1}},
		{"R a", api.DirRight, 1, []int{1, 1, 2}},
		{"a 1", api.DirRight, 1, []int{2, 2, 2}},
		{"A 1", api.DirRight, 1, []int{1, 1, 2}},
		{"R~a~", api.DirLeft, 0, []int{1, 1, 0, 0}},
		{"A1,1", api.DirLeft, 0, []int{1, 2, 2, 2}},
		{"R1,1$", api.DirRight, 1, []int{1, 2, 2, 2, 2}},
		{"!a!R!", api.DirRight, 1, []int{1, 2, 1, 1, 1}},
		{"!a!R!", api.DirFirstRight, 0, []int{0, 0, 0, 1, 0}},
		{"1!R a", api.DirFirstLeft, 1, []int{2, 1, 1, 1, 2}},
		{"1!", api.DirFirstRight, 1, []int{2, 1}},
		{"1!", api.DirFirstLeft, 0, []int{0, 0}},
		{"R!", 4, 0, []int{1, 0}},
		{"R!", -1, 0, []int{1, 0}},
		// brackets
		{"A(a)", api.DirRight, 1, []int{1, 1, 2, 1}},
		{"a(R)1", api.DirLeft, 0, []int{0, 0, 1, 0, 2}}, // weak classes ahead of brackets
		{"a(1)R(1)", api.DirLeft, 0, []int{0, 0, 0, 0, 1, 1, 2, 1}},
		{"RR(RR[!aa]!)aa", api.DirRight, 1, []int{1, 1, 1, 1, 1, 1, 1, 2, 2, 1, 1, 1, 2, 2}},
		{"aa (aa RR) RR", api.DirRight, 1, []int{2, 2, 1, 1, 2, 2, 1, 1, 1, 1, 1, 1, 1}},
		{"RR aa(a)", api.DirRight, 1, []int{1, 1, 1, 2, 2, 2, 2, 2}},
		{"R(a)~!", api.DirRight, 1, []int{1, 1, 2, 1, 1, 1}},
		{"a(R)~R", api.DirLeft, 0, []int{0, 0, 1, 0, 0, 1}},
		{"R(R)~a", api.DirLeft, 0, []int{1, 1, 1, 1, 1, 0}},
		{"R(~A)", api.DirLeft, 0, []int{1, 1, 1, 1, 1}},
		{"a(A]~)", api.DirLeft, 0, []int{0, 0, 1, 0, 0, 0}},
		// what is left out, and what is embedded
		{"_a", api.DirLeft, 0, []int{0, 0}},
		{"_a_", api.DirRight, 1, []int{1, 2, 2}},
		{"ar1p!", api.DirLeft, 0, []int{0, 0, 2, 2, 0}},
		{"R_1_!a", api.DirLeft, 0, []int{1, 1, 2, 2, 0, 0}},
		{"Oap(a)", api.DirLeft, 0, []int{0, 1, 1, 0, 0, 0}},
		{"LRp", api.DirRight, 1, []int{1, 2, 2}},
		{"rlR1pap!", api.DirLeft, 0, []int{0, 0, 3, 4, 4, 2, 2, 0}},
		{"ra(a)pO~p", api.DirLeft, 0, []int{0, 2, 2, 2, 2, 2, 2, 1, 1}}, // an overridden mark is none
		{"ra(a)pr~p", api.DirLeft, 0, []int{0, 2, 2, 2, 2, 2, 2, 2, 2}},
		{"r(p_a)", api.DirLeft, 0, []int{0, 1, 1, 1, 0, 0}}, // brackets of two sequences
		// what stands apart
		{"aIRP!", api.DirLeft, 0, []int{0, 0, 1, 0, 0}},
		{"RIaP!R", api.DirLeft, 0, []int{1, 1, 2, 1, 1, 1}},
		{"RiaP1", api.DirLeft, 0, []int{1, 1, 2, 1, 2}},
		{"afRP1", api.DirLeft, 0, []int{0, 0, 1, 0, 0}},
		{"R(IaP)", api.DirLeft, 0, []int{1, 0, 0, 2, 0, 0}},
		{"R(IaPR)", api.DirLeft, 0, []int{1, 1, 1, 2, 1, 1, 1}},
		{"IR", api.DirLeft, 0, []int{0, 1}},
		{"ra(apOIaPpra)ap", api.DirLeft, 0, []int{0, 2, 1, 2, 2, 2, 1, 4, 1, 1, 1, 2, 1, 2, 2}}, // overridden, but still what it is
		{"(I)a(P)", api.DirLeft, 0, []int{0, 0, 1, 2, 1, 0, 0}},
		// ends
		{"RS", api.DirLeft, 0, []int{1, 0}},
		{"aB", api.DirRight, 1, []int{2, 1}},
		{"rRBR", api.DirLeft, 0, []int{0, 1, 1, 1}}, // between two that go from the right
	} {
		codes, classes := text(test.text)
		level, levels := neutral.Levels(codes, classes, test.direction)
		if level != test.level || !slices.Equal(levels, test.want) {
			t.Errorf("%q, direction %d: %d %v, asked for %d %v", test.text, test.direction, level, levels, test.level, test.want)
		}
		checkLevels(t, codes, classes, test.direction)
	}
}

// TestLevelsLengths hands lists of different lengths in.
func TestLevelsLengths(t *testing.T) {
	full, of := []int{'R', 'a', '!'}, []int{r, l, on}
	for codes := range 4 {
		for classes := range 4 {
			level, levels := neutral.Levels(full[:codes], of[:classes], api.DirRight)
			wantLevel, want := 0, []int(nil)
			if codes == classes {
				wantLevel, want = 1, []int{1, 2, 1}[:codes]
			}
			if level != wantLevel || !slices.Equal(levels, want) {
				t.Errorf("%d codes, %d classes: %d %v", codes, classes, level, levels)
			}
		}
	}
}

// TestLevelsDeep goes around the deepest levels.
func TestLevelsDeep(t *testing.T) {
	for n := 120; n < 130; n++ {
		var begin []int
		for which := range n {
			begin = append(begin, []int{api.RLE, api.LRE}[which%2])
		}
		for _, inside := range [][]int{{l}, {r}, {r, en}, {al, en}, {on}, {l, on, r}, {rli, r, en, l}} {
			classes := slices.Concat(begin, inside)
			for direction := range 2 {
				checkLevels(t, make([]int, len(classes)), classes, direction)
			}
		}
		_, levels := neutral.Levels(make([]int, n+1), append(begin, l), api.DirLeft)
		want := min(n+n%2, 126)
		if got := levels[n]; got != want {
			t.Errorf("%d deep: %d, asked for %d", n, got, want)
		}
	}
	classes := append(slices.Repeat([]int{api.LRE}, 70), r, en, an)
	if _, levels := neutral.Levels(make([]int, 73), classes, api.DirLeft); !slices.Equal(levels[70:], []int{125, 126, 126}) {
		t.Errorf("numbers at the deepest even level: %v", levels[70:])
	}
}

// TestLevelsEach goes through every text of a few letters, in every direction.
func TestLevelsEach(t *testing.T) {
	few := func(n int, letters string) {
		codes, classes := text(letters)
		items := every(codes, func(at int) int { return at })
		each(n, items, func(list []int) {
			some := every(list, func(at int) int { return codes[list[at]] })
			of := every(list, func(at int) int { return classes[list[at]] })
			for direction := range 4 {
				checkLevels(t, some, of, direction)
			}
		})
	}
	for n := range 4 {
		few(n, "aRA1+$9,~_BS lLrOpiIfP!()[]")
	}
	few(4, "aR1~_B rOpIP!()")
	few(5, "aR1~()p")
	few(6, "aR()~")
}

// TestLevelsClass puts each class, and what is none, at every place of a short text.
func TestLevelsClass(t *testing.T) {
	for _, class := range allClasses() {
		for _, other := range allClasses() {
			for direction := -1; direction < 5; direction++ {
				checkLevels(t, []int{'(', 'x', ')'}, []int{class, other, class}, direction)
				checkLevels(t, []int{'x', '(', 'y', ')', '!'}, []int{other, on, class, on, other}, direction)
				checkLevels(t, []int{'x', '(', ')', 'y', '!'}, []int{api.RLE, class, other, r, class}, direction)
			}
		}
	}
}

// TestMixed goes through long texts of all classes.
func TestMixed(t *testing.T) {
	number := uint32(3)
	next := func(n int) int {
		number = number*1664525 + 1013904223
		return int(number>>16) % n
	}
	letters := []rune("aRA1+$9,~_S lLrOpiIfP!()[]()[]aaRR11PPpp")
	for i := range 2000 {
		n := 1 + next(100)
		codes, classes := make([]int, n), make([]int, n)
		for at := range codes {
			letter := letters[next(len(letters))]
			codes[at], classes[at] = int(letter), classOf(letter)
			if i%10 == 0 && next(9) == 0 {
				classes[at] = next(25) - 1
			}
		}
		checkLevels(t, codes, classes, i%4)
		checkRows(t, classes, next(24), next(24), next(9)-4)
	}
}

// TestLong goes through the longest texts.
func TestLong(t *testing.T) {
	const n = api.MaxText
	row := slices.Repeat([]int{ws}, n)
	if got := neutral.N1(row, r, r); !slices.Equal(got, slices.Repeat([]int{r}, n)) {
		t.Error("N1 of a long row: another answer")
	}
	row[0], row[n-1] = al, al
	if level, levels := neutral.Levels(row, row, api.DirFirstLeft); level != 1 || !slices.Equal(levels, slices.Repeat([]int{1}, n)) {
		t.Error("a long row: other levels")
	}
	many := slices.Repeat([]int{rli, on, l, pdi}, n/4)
	if level, levels := neutral.Levels(many, many, api.DirRight); level != 1 || !slices.Equal(levels, slices.Repeat([]int{1, 3, 4, 1}, n/4)) {
		t.Error("many that stand apart: other levels")
	}
}

// TestOwnMemory changes what is answered, and asks again.
func TestOwnMemory(t *testing.T) {
	codes, classes := text("aR (a)rP1~p !")
	rooms := [][]int{slices.Clone(codes), slices.Clone(classes)}
	some, of := codes[:len(codes)-1], classes[:len(classes)-1]
	calls := []func() []int{
		func() []int { return neutral.N1(of, l, r) },
		func() []int { return neutral.N1([]int{l, r}, l, r) },
		func() []int { return neutral.N2(of, 1) },
		func() []int { _, levels := neutral.Levels(some, of, api.DirLeft); return levels },
	}
	for which, call := range calls {
		got := call()
		want := slices.Clone(got)
		for at := range got {
			got[at] = -9
		}
		_ = append(got, -8)
		if again := call(); !slices.Equal(again, want) {
			t.Errorf("call %d: another answer: %v", which, again)
		}
		if !slices.Equal(codes, rooms[0]) || !slices.Equal(classes, rooms[1]) {
			t.Fatalf("call %d shares what it is given: %v %v", which, codes, classes)
		}
	}
}
