package shape_test

import (
	"math"
	"slices"
	"testing"

	"naskh/api"
	"naskh/cluster"
	"naskh/forms"
	"naskh/option"
	"naskh/props"
	"naskh/shape"
	"naskh/unshape"
)

// noCodes are numbers beside those from 0 to MaxCode, what ends in the bits of letters, forms and digits among them.
var noCodes = []int{
	-1, -beh, -lamAlef, math.MinInt, math.MinInt + beh, math.MinInt + lam, 0x110000, 0x110627, 0x110644, 0x11FEFB, 0x11FE73, 0x110031, 0x11D800,
	1<<32 | lam, 1<<32 | alef, 1<<32 | fatha, 1<<32 | one, math.MaxInt - beh, math.MaxInt,
}

// A oneCase is a text, its options, what is to be answered, and how many pairs there are.
type oneCase struct {
	text     []int
	o        api.Options
	want     []int
	clusters []api.Cluster
	pairs    int
}

// all fails unless Shape and Ligatures answer each case as they are to, and Cells has the same codes where no forms are to be taken back, and no digits exchanged.
func all(t *testing.T, cases []oneCase) {
	t.Helper()
	p := props.New()
	for _, e := range cases {
		if l, c, err := shape.Shape(p, e.text, e.o); err != api.OK || !slices.Equal(l, e.want) || !slices.Equal(c, e.clusters) {
			t.Errorf("Shape(%#x, %v): %#x, %v, %d", e.text, e.o, l, c, err)
		}
		if n := shape.Ligatures(p, e.text, e.o); n != e.pairs {
			t.Errorf("Ligatures(%#x, %v): %d", e.text, e.o, n)
		}
		holds(t, p, e.text, e.o)
		if c, err := shape.Cells(p, e.text, e.o); e.o.Letters && e.o.Digits == api.DigitKeep && !slices.ContainsFunc(e.text, forms.Presented) && (err != api.OK || !slices.Equal(c.Text(), e.want)) {
			t.Errorf("Cells(%#x, %v): %#x, %d", e.text, e.o, c.Text(), err)
		}
	}
}

// ones is the map of n places to themselves.
func ones(n int) []api.Cluster { return cluster.Identity(n) }

// P19.1, P19.2: letters, by hand: each form, letters that have not all of them, what joins and has no form, what is passed over, and what is no letter.
func TestLetters(t *testing.T) {
	o := api.Options{Letters: true}
	all(t, []oneCase{
		{nil, o, nil, nil, 0}, {[]int{}, o, nil, nil, 0}, {[]int{beh}, o, []int{0xFE8F}, ones(1), 0}, {[]int{beh, beh, beh}, o, []int{0xFE91, 0xFE92, 0xFE90}, ones(3), 0},
		{[]int{alef, beh}, o, []int{0xFE8D, 0xFE8F}, ones(2), 0}, {[]int{beh, alef}, o, []int{0xFE91, 0xFE8E}, ones(2), 0}, {[]int{beh, fatha, beh}, o, []int{0xFE91, fatha, 0xFE90}, ones(3), 0},
		{[]int{hamza, beh, hamza}, o, []int{hamza, 0xFE8F, hamza}, ones(3), 0}, {[]int{beh, 0x640, beh}, o, []int{0xFE91, 0x640, 0xFE90}, ones(3), 0}, {[]int{beh, joiner}, o, []int{0xFE91, joiner}, ones(2), 0},
		{[]int{beh, 0x200C, beh}, o, []int{0xFE8F, 0x200C, 0xFE8F}, ones(3), 0}, {[]int{beh, space, beh}, o, []int{0xFE8F, space, 0xFE8F}, ones(3), 0}, {[]int{latin, one, 0x2029, 0}, o, []int{latin, one, 0x2029, 0}, ones(4), 0},
		{[]int{0x6BA, beh}, o, []int{0x6BA, 0xFE90}, ones(2), 0}, {[]int{beh, 0x677}, o, []int{0xFE91, 0x677}, ones(2), 0}, {[]int{0x677}, o, []int{0xFBDD}, ones(1), 0}, {[]int{bare, bare, bare}, o, []int{0xFBE8, 0xFBE9, 0xFEF0}, ones(3), 0},
		{[]int{0x6A0, 0x6A0}, o, []int{0x6A0, 0x6A0}, ones(2), 0}, {[]int{lam, alef}, o, []int{0xFEDF, 0xFE8E}, ones(2), 0}, {[]int{-1, 0x110000, math.MaxInt}, o, []int{-1, 0x110000, math.MaxInt}, ones(3), 0},
	})
}

// P19.1, P19.2: lam and alef, by hand, in each way: alone, joined, one behind the other, with marks between.
func TestLamAlef(t *testing.T) {
	resize, near := api.Options{Letters: true, LamAlef: api.LamResize}, api.Options{Letters: true, LamAlef: api.LamNear}
	begin, end := api.Options{Letters: true, LamAlef: api.LamBegin}, api.Options{Letters: true, LamAlef: api.LamEnd}
	throughResize, throughNear := resize, near
	throughResize.Through, throughNear.Through = true, true
	two, twice := []int{lam, alef}, []int{lam, alef, beh, lam, madda}
	all(t, []oneCase{
		{two, resize, []int{0xFEFB}, []api.Cluster{to(0, 2, 0, 1)}, 1}, {two, near, []int{0xFEFB, space}, []api.Cluster{to(0, 2, 0, 2)}, 1},
		{two, begin, []int{space, 0xFEFB}, []api.Cluster{to(0, 2, 0, 2)}, 1}, {two, end, []int{0xFEFB, space}, []api.Cluster{to(0, 2, 0, 2)}, 1},
		{[]int{beh, lam, alef}, resize, []int{0xFE91, 0xFEFC}, []api.Cluster{to(0, 1, 0, 1), to(1, 3, 1, 2)}, 1}, {[]int{beh, lam, alef}, near, []int{0xFE91, 0xFEFC, space}, []api.Cluster{to(0, 1, 0, 1), to(1, 3, 1, 3)}, 1},
		{[]int{lam, lam, alef}, resize, []int{0xFEDF, 0xFEFC}, []api.Cluster{to(0, 1, 0, 1), to(1, 3, 1, 2)}, 1}, {[]int{lam, alef, alef}, resize, []int{0xFEFB, 0xFE8D}, []api.Cluster{to(0, 2, 0, 1), to(2, 3, 1, 2)}, 1},
		{twice, resize, []int{0xFEFB, 0xFE91, 0xFEF6}, []api.Cluster{to(0, 2, 0, 1), to(2, 3, 1, 2), to(3, 5, 2, 3)}, 2},
		{twice, near, []int{0xFEFB, space, 0xFE91, 0xFEF6, space}, []api.Cluster{to(0, 2, 0, 2), to(2, 3, 2, 3), to(3, 5, 3, 5)}, 2},
		{twice, begin, []int{space, space, 0xFEFB, 0xFE91, 0xFEF6}, []api.Cluster{to(0, 2, 0, 3), to(2, 3, 3, 4), to(3, 5, 4, 5)}, 2},
		{twice, end, []int{0xFEFB, 0xFE91, 0xFEF6, space, space}, []api.Cluster{to(0, 2, 0, 1), to(2, 3, 1, 2), to(3, 5, 2, 5)}, 2},
		{[]int{beh, lam, alef, beh}, begin, []int{space, 0xFE91, 0xFEFC, 0xFE8F}, []api.Cluster{to(0, 1, 0, 2), to(1, 3, 2, 3), to(3, 4, 3, 4)}, 1},
		{[]int{beh, lam, alef, beh}, end, []int{0xFE91, 0xFEFC, 0xFE8F, space}, []api.Cluster{to(0, 1, 0, 1), to(1, 3, 1, 2), to(3, 4, 2, 4)}, 1},
		{[]int{lam, fatha, alef}, resize, []int{0xFEDF, fatha, 0xFE8E}, ones(3), 0}, {[]int{lam, fatha, alef}, throughResize, []int{0xFEFB, fatha}, []api.Cluster{to(0, 3, 0, 2)}, 1},
		{[]int{lam, fatha, alef, beh}, throughNear, []int{0xFEFB, fatha, space, 0xFE8F}, []api.Cluster{to(0, 3, 0, 3), to(3, 4, 3, 4)}, 1}, {[]int{lam, joiner, alef}, throughNear, []int{0xFEDF, joiner, 0xFE8E}, ones(3), 0},
		{[]int{lam, alef}, api.Options{}, []int{lam, alef}, ones(2), 0}, {[]int{beh, beh}, begin, []int{0xFE91, 0xFE90}, ones(2), 0}, {nil, begin, nil, nil, 0}, {nil, end, nil, nil, 0},
	})
}

// P19.1, P19.2: marks, by hand: each mode, over two that join and not; piles, also between a lam and its alef.
func TestMarks(t *testing.T) {
	in := func(mode int) api.Options { return api.Options{Letters: true, Tashkeel: mode} }
	piled := func(mode int) api.Options { return api.Options{Letters: true, Tashkeel: mode, Pile: true} }
	through := api.Options{Letters: true, LamAlef: api.LamResize, Through: true, Tashkeel: api.MarkMedial}
	text, doubled := []int{beh, fatha, beh, fatha}, []int{beh, shadda, fatha}
	all(t, []oneCase{
		{text, in(api.MarkKeep), []int{0xFE91, fatha, 0xFE90, fatha}, ones(4), 0}, {text, in(api.MarkIsolated), []int{0xFE91, 0xFE76, 0xFE90, 0xFE76}, ones(4), 0},
		{text, in(api.MarkMedial), []int{0xFE91, 0xFE77, 0xFE90, 0xFE76}, ones(4), 0}, {text, in(api.MarkRemove), []int{0xFE91, 0xFE90}, []api.Cluster{to(0, 2, 0, 1), to(2, 4, 1, 2)}, 0},
		{text, in(api.MarkTatweel), []int{0xFE91, 0x640, 0xFE90}, []api.Cluster{to(0, 1, 0, 1), to(1, 2, 1, 2), to(2, 4, 2, 3)}, 0}, {[]int{fatha, beh}, in(api.MarkRemove), []int{0xFE8F}, []api.Cluster{to(0, 2, 0, 1)}, 0},
		{doubled, piled(api.MarkKeep), []int{0xFE8F, 0xFC60}, []api.Cluster{to(0, 1, 0, 1), to(1, 3, 1, 2)}, 0}, {doubled, piled(api.MarkMedial), []int{0xFE8F, 0xFC60}, []api.Cluster{to(0, 1, 0, 1), to(1, 3, 1, 2)}, 0},
		{doubled, in(api.MarkKeep), []int{0xFE8F, shadda, fatha}, ones(3), 0}, {[]int{beh, shadda}, piled(api.MarkIsolated), []int{0xFE8F, 0xFE7C}, ones(2), 0}, {[]int{fatha, shadda, shadda, small}, piled(api.MarkKeep), []int{fatha, shadda, 0xFC63}, []api.Cluster{to(0, 1, 0, 1), to(1, 2, 1, 2), to(2, 4, 2, 3)}, 0},
		{[]int{beh, 0x653, 0x610}, in(api.MarkRemove), []int{0xFE8F, 0x653, 0x610}, ones(3), 0}, {[]int{lam, fatha, alef}, through, []int{0xFEFB, 0xFE77}, []api.Cluster{to(0, 3, 0, 2)}, 1},
		{[]int{lam, shadda, fatha, alef}, api.Options{Letters: true, LamAlef: api.LamNear, Through: true, Pile: true}, []int{0xFEFB, 0xFC60, space}, []api.Cluster{to(0, 4, 0, 3)}, 1},
	})
}

// P19.1, P19.2: tails, by hand: of both families, in the forms that have them, and what is not asked for.
func TestTails(t *testing.T) {
	s, y := api.Options{Letters: true, Seen: true}, api.Options{Letters: true, Yeh: true}
	tailed := []api.Cluster{to(0, 1, 0, 2)}
	all(t, []oneCase{
		{[]int{seen}, s, []int{0xFEB3, 0xFE73}, tailed, 0}, {[]int{beh, seen}, s, []int{0xFE91, 0xFEB4, 0xFE73}, []api.Cluster{to(0, 1, 0, 1), to(1, 2, 1, 3)}, 0},
		{[]int{seen, beh}, s, []int{0xFEB3, 0xFE90}, ones(2), 0}, {[]int{beh, seen, beh}, s, []int{0xFE91, 0xFEB4, 0xFE90}, ones(3), 0}, {[]int{seen}, y, []int{0xFEB1}, ones(1), 0}, {[]int{seen, fatha}, s, []int{0xFEB3, 0xFE73, fatha}, []api.Cluster{to(0, 1, 0, 2), to(1, 2, 2, 3)}, 0},
		{[]int{yeh}, y, []int{0xFEEF, 0xFE80}, tailed, 0}, {[]int{beh, yeh}, y, []int{0xFE91, 0xFEF0, 0xFE80}, []api.Cluster{to(0, 1, 0, 1), to(1, 2, 1, 3)}, 0}, {[]int{yeh, beh}, y, []int{0xFE8B, 0xFE90}, ones(2), 0}, {[]int{yeh}, s, []int{0xFE89}, ones(1), 0},
		{[]int{0x634, 0x635, 0x636}, s, []int{0xFEB7, 0xFEBC, 0xFEC0, 0xFE73}, []api.Cluster{to(0, 1, 0, 1), to(1, 2, 1, 2), to(2, 3, 2, 4)}, 0},
	})
}

// P19.1, P19.2: forms that are there: Shape takes them back, and shapes what they are; to Cells they are codes like others, that join nothing.
func TestFormsThere(t *testing.T) {
	p, o := props.New(), api.Options{Letters: true, LamAlef: api.LamResize, Pile: true, Seen: true, Tashkeel: api.MarkIsolated}
	all(t, []oneCase{
		{[]int{behForm, 0xFE8F}, o, []int{0xFE91, 0xFE90}, ones(2), 0}, {[]int{beh, lamAlef}, o, []int{0xFE91, 0xFEFC}, ones(2), 1}, {[]int{0xFEFC}, o, []int{0xFEFB}, ones(1), 1}, {[]int{0xFEDF, 0xFE8D}, o, []int{0xFEFB}, []api.Cluster{to(0, 2, 0, 1)}, 1},
		{[]int{pile, accent}, o, []int{pile, accent}, ones(2), 0}, {[]int{0xFE7C, fatha}, o, []int{pile}, []api.Cluster{to(0, 2, 0, 1)}, 0}, {[]int{seenForm, seenTail}, o, []int{0xFEB3, 0xFE73, 0xFE73}, []api.Cluster{to(0, 1, 0, 2), to(1, 2, 2, 3)}, 0},
		{[]int{lamAlef, pile}, api.Options{Letters: true}, []int{0xFEDF, 0xFE8E, shadda, fatha}, []api.Cluster{to(0, 1, 0, 2), to(1, 2, 2, 4)}, 0}, {[]int{lamAlef, pile}, api.Options{}, []int{lamAlef, pile}, ones(2), 0},
		{[]int{beh, pile, fatha, beh}, api.Options{Letters: true, Tashkeel: api.MarkRemove}, []int{0xFE91, 0xFE90}, []api.Cluster{to(0, 3, 0, 1), to(3, 4, 1, 2)}, 0},
		{[]int{0xFE7C, pile}, api.Options{Letters: true, Pile: true}, []int{shadda, pile}, ones(2), 0}, {[]int{lam, 0xFEFB}, api.Options{Letters: true, LamAlef: api.LamBegin}, []int{space, 0xFEDF, 0xFEFC}, []api.Cluster{to(0, 1, 0, 2), to(1, 2, 2, 3)}, 1},
	})
	text := []int{behForm, beh, lamAlef, beh, accent, lam, 0xFE8D, seen, seenTail}
	c, err := shape.Cells(p, text, o)
	if want := []int{behForm, 0xFE8F, lamAlef, 0xFE8F, accent, 0xFEDD, 0xFE8D, 0xFEB3, 0xFE73, seenTail}; err != api.OK || !slices.Equal(c.Text(), want) {
		t.Errorf("Cells(%#x): %#x, %d", text, c.Text(), err)
	}
}

// P19.2: digits, by hand: with letters and without; what their context is, is told by the text with its forms.
func TestDigits(t *testing.T) {
	to660, context := api.Options{Digits: api.DigitToArabic}, api.Options{Letters: true, Digits: api.DigitContextLeft}
	eastern := context
	eastern.Eastern = true
	all(t, []oneCase{
		{[]int{beh, one}, to660, []int{beh, 0x661}, ones(2), 0}, {[]int{beh, one}, context, []int{0xFE8F, 0x661}, ones(2), 0}, {[]int{beh, one, latin, one}, eastern, []int{0xFE8F, 0x6F1, latin, one}, ones(4), 0},
		{[]int{one, beh}, context, []int{one, 0xFE8F}, ones(2), 0}, {[]int{latin, accent, one}, context, []int{latin, fatha, 0x661}, ones(3), 0}, {[]int{latin, fatha, one}, context, []int{latin, fatha, one}, ones(3), 0},
		{[]int{0x661, 0x6F2, 0x33}, api.Options{Digits: api.DigitToEuropean, Reorder: true, Mirror: true}, []int{0x31, 0x32, 0x33}, ones(3), 0}, {[]int{one}, api.Options{Eastern: true}, []int{one}, ones(1), 0},
	})
}

// P19.1: options without letters ask no less of Cells: its sentence names them not.
func TestCellsWithoutLetters(t *testing.T) {
	c, err := shape.Cells(props.New(), []int{beh, one, beh}, api.Options{Digits: api.DigitToArabic})
	if err != api.OK || !slices.Equal(c.Text(), []int{0xFE8F, one, 0xFE8F}) {
		t.Errorf("%#x, %d", c.Text(), err)
	}
}

// refused fails unless all three refuse a text as they are to.
func refused(t *testing.T, p *props.Props, text []int, o api.Options, ofCells, ofShape api.Errno) {
	t.Helper()
	if c, err := shape.Cells(p, text, o); err != ofCells || (c == nil) != (ofCells != api.OK) {
		t.Errorf("Cells of %d, %v: %d, not %d", len(text), o, err, ofCells)
	}
	if l, c, err := shape.Shape(p, text, o); err != ofShape || len(l) != 0 || len(c) != 0 {
		t.Errorf("Shape of %d, %v: %d codes, %d clusters, %d, not %d", len(text), o, len(l), len(c), err, ofShape)
	}
	if n := shape.Ligatures(p, text, o); n != 0 {
		t.Errorf("Ligatures of %d, %v: %d", len(text), o, n)
	}
}

// P19.1, P19.2: too many codes, at once or when they are taken back; nothing that is left; wrong options come first.
func TestRefused(t *testing.T) {
	p := props.New()
	long := slices.Repeat([]int{lam}, api.MaxText+1)
	long[1] = alef
	resize, wrong := api.Options{Letters: true, LamAlef: api.LamResize}, api.Options{LamAlef: api.LamResize}
	refused(t, p, long, api.Options{}, api.ErrLong, api.ErrLong)
	refused(t, p, long, resize, api.ErrLong, api.ErrLong)
	refused(t, p, long, wrong, api.ErrOption, api.ErrOption)
	refused(t, p, long, api.Options{Direction: 4, LamAlef: api.LamResize}, api.ErrArg, api.ErrArg)
	refused(t, p, []int{lam, alef}, wrong, api.ErrOption, api.ErrOption)
	refused(t, p, []int{lam, alef}, api.Options{Letters: true, LamAlef: 5}, api.ErrArg, api.ErrArg)
	for i := range long[:api.MaxText/2+1] {
		long[i] = lamAlef
	}
	refused(t, p, long[:api.MaxText/2+1], resize, api.OK, api.ErrLong)
	remove, tatweel := api.Options{Letters: true, Tashkeel: api.MarkRemove}, api.Options{Letters: true, Tashkeel: api.MarkTatweel}
	refused(t, p, []int{fatha}, remove, api.OK, api.ErrAllRemoved)
	refused(t, p, []int{shadda, kasra, small}, tatweel, api.OK, api.ErrAllRemoved)
	refused(t, p, []int{pile, accent}, remove, api.OK, api.ErrAllRemoved)
	if l, _, err := shape.Shape(p, nil, remove); err != api.OK || len(l) != 0 {
		t.Errorf("of no text: %#x, %d", l, err)
	}
}

// P19.1, P19.2: as many codes as a text may have, and where more than these come out.
func TestMostCodes(t *testing.T) {
	p, o := props.New(), api.Options{Letters: true, Seen: true}
	text := slices.Repeat([]int{seen, space}, api.MaxText/2)
	c, err := shape.Cells(p, text, o)
	if err != api.OK || !slices.Equal(c.At(api.MaxText-2), []int{0xFEB3, 0xFE73}) {
		t.Fatal(err)
	}
	if l, c, err := shape.Shape(p, text, api.Options{Digits: api.DigitToArabic}); err != api.OK || len(l) != api.MaxText || len(c) != api.MaxText {
		t.Errorf("%d codes, %d clusters, %d", len(l), len(c), err)
	}
	if l, c, err := shape.Shape(p, text[:api.MaxText/3*2+2], o); err != api.ErrArg || len(l) != 0 || len(c) != 0 { // so many codes have no map (P12.2, P4.2)
		t.Errorf("%d codes, %d clusters, %d", len(l), len(c), err)
	}
	text[api.MaxText-2], text[api.MaxText-1] = lam, alef
	if n := shape.Ligatures(p, text, api.Options{Letters: true, LamAlef: api.LamEnd}); n != 1 {
		t.Error(n)
	}
}

// P19.1, P19.2: options that may not be are refused as option.Check says, whatever the text.
func TestOptions(t *testing.T) {
	flags := []func(o *api.Options){
		func(o *api.Options) {}, func(o *api.Options) { o.Letters = true }, func(o *api.Options) { o.Letters, o.Through = true, true }, func(o *api.Options) { o.Pile = true }, func(o *api.Options) { o.Seen = true },
		func(o *api.Options) { o.Letters, o.Pile = true, true }, func(o *api.Options) { o.Yeh = true }, func(o *api.Options) { o.Marks = true }, func(o *api.Options) { o.Letters, o.Reorder, o.Marks = true, true, true },
	}
	p := props.New()
	each(4, []int{-1, 0, 2, 3, 4, 5, math.MaxInt}, func(kinds []int) {
		for _, set := range flags {
			o := api.Options{Direction: kinds[0], LamAlef: kinds[1], Tashkeel: kinds[2], Digits: kinds[3]}
			set(&o)
			if wrong := option.Check(o); wrong != api.OK {
				refused(t, p, []int{lam, alef}, o, wrong, wrong)
			} else {
				holds(t, p, []int{lam, alef, fatha, one}, o)
			}
		}
	})
}

// P19.1, P19.2: of the options that there may be some, of all kinds.
func TestEveryOptions(t *testing.T) {
	p := props.New()
	text := []int{one, beh, lam, shadda, kasra, alef, one, latin, accent, lamAlef, seen, fatha, yeh, space, lam, madda}
	for bits := 0; bits < 500*1024; bits += 7 {
		if o, err := option.Of(bits); err == api.OK {
			holds(t, p, text, o)
		}
	}
}

// P19.1, P19.2: every text of up to three codes, with all options for letters, and every one of four, each with a few of them.
func TestEach(t *testing.T) {
	const few = 11
	p, ways := props.New(), lettered()
	for _, codes := range [][]int{
		{lam, alef, fatha, shadda, beh}, {lam, madda, joiner, space, small}, {seen, yeh, bare, hamza, fatha}, {lamAlef, pile, fatha, 0xFE7C, lam}, {seenTail, seenForm, seen, accent, 0xFEDF},
	} {
		for n := range 4 {
			each(n, codes, func(text []int) {
				for _, o := range ways {
					holds(t, p, text, o)
				}
			})
		}
		first := 0
		each(4, codes, func(text []int) {
			first = (first + 1) % few
			for i := first; i < len(ways); i += few {
				holds(t, p, text, ways[i])
			}
		})
	}
}

// near says whether a code is of the blocks in which letters, marks, forms and digits stand.
func near(code int) bool {
	return code < 0x910 || code >= 0x2000 && code < 0x2100 || code >= 0xA840 && code < 0xA880 || code >= 0xFB50 && code < 0xFF00
}

// P19.1, P19.2: each code of the blocks in which something becomes of codes, and some of the others, alone and between letters, and as a mark between a lam and an alef.
func TestEachCode(t *testing.T) {
	p := props.New()
	each := api.Options{Letters: true, LamAlef: api.LamNear, Through: true, Tashkeel: api.MarkMedial, Pile: true, Seen: true, Yeh: true, Digits: api.DigitContextArabic}
	check := func(code int) {
		holds(t, p, []int{beh, code, shadda, code, beh, lam, code, alef, code, one}, each)
		holds(t, p, []int{code}, api.Options{Letters: true, LamAlef: api.LamEnd})
	}
	for code := range api.MaxCode + 1 {
		if near(code) || code%61 == 0 {
			check(code)
		}
	}
	for _, code := range noCodes {
		check(code)
	}
}

// open says whether a mark stands between a lam and its alef.
func open(p *props.Props, text []int) bool {
	for at, code := range text {
		end := at + 1
		for end < len(text) && p.Join(text[end]) == api.JoinT {
			end++
		}
		if code == lam && end > at+1 && end < len(text) && slices.Contains([]int{alef, madda, 0x623, 0x625}, text[end]) {
			return true
		}
	}
	return false
}

// returns says whether P19.3 speaks of a text without forms with such options.
func returns(p *props.Props, text []int, o api.Options) bool {
	switch {
	case slices.ContainsFunc(text, forms.Presented), o.Digits != api.DigitKeep, o.Tashkeel == api.MarkRemove, o.Tashkeel == api.MarkTatweel:
		return false
	case o.Through && o.LamAlef != api.LamOff && o.LamAlef != api.LamNear && open(p, text):
		return false
	}
	at := slices.Index(text, bare)
	return !o.Yeh || at < 0 || at+1 == len(text) || text[at+1] != hamza
}

// thereAndBack fails unless a text that is shaped and unshaped is itself.
func thereAndBack(t *testing.T, p *props.Props, text []int, o api.Options) {
	t.Helper()
	shaped, _, err := shape.Shape(p, text, o)
	if err != api.OK {
		t.Fatalf("Shape(%#x, %v): %d", text, o, err)
	}
	if l, _, err := unshape.Unshape(p, shaped, o); err != api.OK || !slices.Equal(l, text) {
		t.Fatalf("Unshape(%#x, %v): %#x, %d, not %#x", shaped, o, l, err, text)
	}
}

// P19.3: every text of up to four codes without forms, with all options that keep what is there.
func TestThereAndBack(t *testing.T) {
	p := props.New()
	for _, codes := range [][]int{{lam, alef, fatha, shadda}, {lam, madda, small, space}, {seen, yeh, bare, hamza}, {lam, alef, joiner, 0x200E}, {seen, kasra, alef, one}} {
		for n := range 5 {
			each(n, codes, func(text []int) {
				for _, o := range append(lettered(), api.Options{}) {
					if returns(p, text, o) {
						thereAndBack(t, p, text, o)
					}
				}
			})
		}
	}
}

// P19.3: such codes, but forms, by each of the ways of lam and alef.
func TestThereAndBackEachCode(t *testing.T) {
	p := props.New()
	for code := range api.MaxCode + 1 {
		if forms.Presented(code) || !near(code) && code%61 != 0 {
			continue
		}
		for lamAlef := range 5 {
			o := api.Options{Letters: true, LamAlef: lamAlef, Tashkeel: api.MarkMedial, Pile: true, Seen: true}
			thereAndBack(t, p, []int{beh, code, shadda, code, lam, alef, code}, o)
		}
	}
}

// again fails unless a text that is shaped, unshaped, and shaped again is what it was when it was first shaped.
func again(t *testing.T, p *props.Props, text []int, o api.Options) {
	t.Helper()
	shaped, _, err := shape.Shape(p, text, o)
	if err != api.OK {
		t.Fatalf("Shape(%#x, %v): %d", text, o, err)
	}
	back, _, err := unshape.Unshape(p, shaped, o)
	if err != api.OK {
		t.Fatalf("Unshape(%#x, %v): %d", shaped, o, err)
	}
	if l, _, err := shape.Shape(p, back, o); err != api.OK || !slices.Equal(l, shaped) {
		t.Fatalf("Shape(%#x, %v): %#x, %d, not %#x", back, o, l, err, shaped)
	}
}

// P19.4: every text of up to four codes, forms among them, with each mode of digits, as lam and alef take less room or none.
func TestAgain(t *testing.T) {
	p := props.New()
	var ways []api.Options
	for _, o := range append(lettered(), api.Options{}) {
		if o.LamAlef <= api.LamResize && o.Tashkeel == api.MarkKeep && !o.Yeh && !(o.Pile && o.Through) {
			for o.Digits = range 5 {
				eastern := o
				eastern.Eastern = true
				ways = append(ways, o, eastern)
			}
		}
	}
	for _, codes := range [][]int{{lam, alef, fatha, shadda, lamAlef}, {pile, accent, latin, one, 0x5D0}, {seen, seenTail, seenForm, fatha, beh}, {lamAlef, pile, 0xFEDF, 0xFE8D, 0xFE7C}, {0xFEEF, 0xFE80, bare, yeh, one}} {
		for n := range 5 {
			each(n, codes, func(text []int) {
				for _, o := range ways {
					again(t, p, text, o)
				}
			})
		}
	}
}

// Long texts: pairs, marks between a lam and its alef, piles, tails, forms that are taken back.
func TestLong(t *testing.T) {
	const n = 1 << 17
	p := props.New()
	for _, e := range []struct {
		text         []int
		o            api.Options
		codes, pairs int
		clusters     int
	}{
		{slices.Repeat([]int{beh, lam, alef}, n), api.Options{Letters: true, LamAlef: api.LamBegin}, 3 * n, n, 2 * n}, {slices.Repeat([]int{beh, lam, alef}, n), api.Options{Letters: true, LamAlef: api.LamEnd}, 3 * n, n, 2 * n},
		{slices.Concat([]int{lam}, slices.Repeat([]int{fatha, shadda}, n), []int{alef}), api.Options{Letters: true, LamAlef: api.LamNear, Through: true, Pile: true}, n + 3, 1, 1}, // the first fatha and the last shadda stay
		{slices.Repeat([]int{shadda, fatha}, n), api.Options{Letters: true, Pile: true}, n, 0, n}, {slices.Repeat([]int{seen, space}, n), api.Options{Letters: true, Seen: true}, 3 * n, 0, 2 * n},
		{slices.Repeat([]int{lamAlef}, n), api.Options{Letters: true, LamAlef: api.LamResize}, n, n, n}, {slices.Repeat([]int{lamAlef}, n), api.Options{Letters: true}, 2 * n, 0, n},
		{slices.Repeat([]int{fatha}, n), api.Options{Letters: true, Tashkeel: api.MarkMedial}, n, 0, n}, {slices.Repeat([]int{lam, fatha}, n), api.Options{Letters: true, LamAlef: api.LamResize, Through: true}, 2 * n, 0, 2 * n},
	} {
		l, c, err := shape.Shape(p, e.text, e.o)
		if err != api.OK || len(l) != e.codes || len(c) != e.clusters || !cluster.Check(c, len(e.text), len(l)) {
			t.Errorf("%v: %d codes, %d clusters, %d", e.o, len(l), len(c), err)
		}
		if k := shape.Ligatures(p, e.text, e.o); k != e.pairs {
			t.Errorf("%v: %d pairs", e.o, k)
		}
	}
}

// spoil changes all that was told, its spare room included.
func spoil(l []int, c []api.Cluster) {
	l, c = l[:cap(l)], c[:cap(c)]
	for i := range l {
		l[i] = 9
	}
	for i := range c {
		c[i] = to(9, 9, 9, 9)
	}
}

// R3, R5: what is handed in is not changed, its spare room included, and not kept; what is told may be changed, and is told again; what New did not make is no fault.
func TestOwnMemory(t *testing.T) {
	p := props.New()
	text := []int{beh, lam, fatha, alef, 0x61, accent, one, seen, lam, alef, alef}
	was := slices.Clone(text)
	for range 2 {
		for _, o := range append(lettered(), api.Options{}, api.Options{Digits: api.DigitToArabic}) {
			l, c, _ := shape.Shape(p, text[:8], o)
			holds(t, p, text[:8], o)
			spoil(l, c)
			x, _ := shape.Cells(p, text[:8], o)
			y, _ := shape.Cells(p, text[:8], o)
			spoil(x.Text(), nil)
			x.Set(1, 9)
			x.Behind(9)
			told(t, y, newModel(p, text[:8], o).codes)
			if !slices.Equal(text, was) {
				t.Fatalf("changed: %#x", text)
			}
		}
	}
	o := api.Options{Letters: true}
	kept, _ := shape.Cells(p, text, o)
	for i := range text {
		text[i] = 9
	}
	told(t, kept, newModel(p, was, o).codes)
	for _, none := range []*props.Props{nil, {}} {
		shape.Shape(none, was, o)
		shape.Cells(none, was, o)
		shape.Ligatures(none, was, o)
	}
}
