package spell_test

import (
	"math"
	"slices"
	"strings"
	"testing"

	"naskh/api"
	"naskh/option"
	"naskh/spell"
)

// fieldWords are the chapter's words, those of one field in one list: of the first field from 0 on, of the others from 1 on.
var fieldWords = [][]string{
	{"ltr", "rtl", "first-ltr", "first-rtl"},
	{"lam-resize", "lam-near", "lam-begin", "lam-end"},
	{"mark-isolated", "mark-medial", "mark-remove", "mark-tatweel"},
	{"to-arabic", "to-european", "context-ltr", "context-arabic"},
	{"eastern"}, {"letters"}, {"through"}, {"pile"}, {"seen"}, {"yeh"}, {"reorder"}, {"marks"}, {"mirror"}, {"strip"},
}

// of lays the options of these kinds and flags out.
func of(direction, lamAlef, tashkeel, digits, flags int) api.Options {
	return api.Options{
		Direction: direction, LamAlef: lamAlef, Tashkeel: tashkeel, Digits: digits,
		Eastern: flags&1 != 0, Letters: flags&2 != 0, Through: flags&4 != 0, Pile: flags&8 != 0, Seen: flags&16 != 0,
		Yeh: flags&32 != 0, Reorder: flags&64 != 0, Marks: flags&128 != 0, Mirror: flags&256 != 0, Strip: flags&512 != 0,
	}
}

// saying tells the options that one word of a field says, and nothing else.
func saying(field, word int) api.Options {
	switch field {
	case 0:
		return api.Options{Direction: word}
	case 1:
		return api.Options{LamAlef: word + 1}
	case 2:
		return api.Options{Tashkeel: word + 1}
	case 3:
		return api.Options{Digits: word + 1}
	}
	return of(0, 0, 0, 0, 1<<(field-4))
}

// both tells the options that say what a and what b say, of other fields.
func both(a, b api.Options) api.Options {
	return api.Options{
		Direction: a.Direction + b.Direction, LamAlef: a.LamAlef + b.LamAlef, Tashkeel: a.Tashkeel + b.Tashkeel, Digits: a.Digits + b.Digits,
		Eastern: a.Eastern || b.Eastern, Letters: a.Letters || b.Letters, Through: a.Through || b.Through, Pile: a.Pile || b.Pile, Seen: a.Seen || b.Seen,
		Yeh: a.Yeh || b.Yeh, Reorder: a.Reorder || b.Reorder, Marks: a.Marks || b.Marks, Mirror: a.Mirror || b.Mirror, Strip: a.Strip || b.Strip,
	}
}

// printed tells what Print is to say of options that go together.
func printed(direction, lamAlef, tashkeel, digits, flags int) string {
	words := []string{fieldWords[0][direction]}
	for i, n := range []int{lamAlef, tashkeel, digits} {
		if n != 0 {
			words = append(words, fieldWords[i+1][n-1])
		}
	}
	for bit := range 10 {
		if flags&(1<<bit) != 0 {
			words = append(words, fieldWords[bit+4][0])
		}
	}
	return strings.Join(words, " ")
}

// parse fails unless Parse answers this; with an error no options are to stand beside it.
func parse(t *testing.T, s string, want api.Options, err api.Errno) {
	t.Helper()
	if err != api.OK {
		want = api.Options{}
	}
	if o, got := spell.Parse(s); o != want || got != err {
		t.Errorf("Parse(%q): %+v, %d, not %+v, %d", s, o, got, want, err)
	}
}

// P11.1: the words, in their order; whoever gets them may change them.
func TestWords(t *testing.T) {
	want := slices.Concat(fieldWords...)
	got := spell.Words()
	if len(got) != 26 || !slices.Equal(got, want) {
		t.Fatalf("%q", got)
	}
	for i := range got {
		got[i] = "x"
	}
	if got := spell.Words(); !slices.Equal(got, want) {
		t.Errorf("changed: %q", got)
	}
	parse(t, "rtl strip", api.Options{Direction: 1, Strip: true}, api.OK)
}

// P11.1: Print, by hand: the direction's word always, what is 0 not, one blank between; what may not be, and what does not go together.
func TestPrint(t *testing.T) {
	for _, c := range []struct {
		o    api.Options
		want string
		err  api.Errno
	}{
		{api.Options{}, "ltr", api.OK},
		{api.Options{Direction: api.DirRight}, "rtl", api.OK},
		{api.Options{Direction: api.DirFirstLeft}, "first-ltr", api.OK},
		{api.Options{Direction: api.DirFirstRight, Strip: true}, "first-rtl strip", api.OK},
		{api.Options{Direction: 1, Letters: true, LamAlef: api.LamNear}, "rtl lam-near letters", api.OK},
		{api.Options{Letters: true, LamAlef: api.LamResize, Tashkeel: api.MarkTatweel, Digits: api.DigitContextArabic}, "ltr lam-resize mark-tatweel context-arabic letters", api.OK},
		{api.Options{Letters: true, LamAlef: api.LamEnd, Tashkeel: api.MarkIsolated, Digits: api.DigitToArabic}, "ltr lam-end mark-isolated to-arabic letters", api.OK},
		{api.Options{Reorder: true, Marks: true, Mirror: true}, "ltr reorder marks mirror", api.OK},
		{of(3, 4, 2, 4, 1023), "first-rtl lam-end mark-medial context-arabic eastern letters through pile seen yeh reorder marks mirror strip", api.OK},
		{api.Options{Direction: 4}, "", api.ErrArg}, {api.Options{Direction: -1}, "", api.ErrArg}, {api.Options{Direction: math.MinInt}, "", api.ErrArg},
		{api.Options{LamAlef: 5, Letters: true}, "", api.ErrArg}, {api.Options{Tashkeel: -1, Letters: true}, "", api.ErrArg}, {api.Options{Digits: 5}, "", api.ErrArg},
		{api.Options{Digits: math.MaxInt}, "", api.ErrArg}, {api.Options{Digits: 1<<32 | 1}, "", api.ErrArg},
		{api.Options{LamAlef: 1}, "", api.ErrOption}, {api.Options{Marks: true}, "", api.ErrOption}, {api.Options{Through: true, Letters: true}, "", api.ErrOption},
		{api.Options{Direction: 4, Marks: true}, "", api.ErrArg},
	} {
		if got, err := spell.Print(c.o); got != c.want || err != c.err {
			t.Errorf("Print(%+v): %q, %d, not %q, %d", c.o, got, err, c.want, c.err)
		}
	}
}

// P11.1, P11.3: Print of all options, and of those beside them, and Parse of what it says.
func TestPrintEach(t *testing.T) {
	for direction := -1; direction <= 4; direction++ {
		for three := range 7 * 7 * 7 {
			for flags := range 1024 {
				o := of(direction, three%7-1, three/7%7-1, three/49-1, flags)
				err, want := option.Check(o), ""
				if err == api.OK {
					want = printed(o.Direction, o.LamAlef, o.Tashkeel, o.Digits, flags)
				}
				s, got := spell.Print(o)
				if s != want || got != err {
					t.Fatalf("Print(%+v): %q, %d, not %q, %d", o, s, got, want, err)
				}
				if err != api.OK {
					continue
				}
				if back, err := spell.Parse(s); back != o || err != api.OK {
					t.Fatalf("Parse of Print(%+v): %+v, %d", o, back, err)
				}
			}
		}
	}
}

// P11.2: Parse, by hand: no words, words in any order, blanks ahead, between and behind, options that do not go together.
func TestParse(t *testing.T) {
	for _, c := range []struct {
		s    string
		want api.Options
		err  api.Errno
	}{
		{"", api.Options{}, api.OK}, {" ", api.Options{}, api.OK}, {"     ", api.Options{}, api.OK},
		{"ltr", api.Options{}, api.OK}, {"rtl", api.Options{Direction: 1}, api.OK}, {"first-rtl", api.Options{Direction: 3}, api.OK},
		{"rtl letters lam-near", api.Options{Direction: 1, Letters: true, LamAlef: 2}, api.OK},
		{"lam-near letters rtl", api.Options{Direction: 1, Letters: true, LamAlef: 2}, api.OK},
		{"   strip    rtl   ", api.Options{Direction: 1, Strip: true}, api.OK},
		{"strip mirror marks reorder yeh seen pile through letters eastern context-arabic mark-medial lam-end first-rtl", of(3, 4, 2, 4, 1023), api.OK},
		{"to-arabic", api.Options{Digits: 1}, api.OK}, {"to-european", api.Options{Digits: 2}, api.OK}, {"context-ltr", api.Options{Digits: 3}, api.OK},
		{"mark-remove letters", api.Options{Tashkeel: 3, Letters: true}, api.OK},

		{"lam-near", api.Options{}, api.ErrOption}, {"marks", api.Options{}, api.ErrOption}, {"through letters", api.Options{}, api.ErrOption},
		{"pile letters mark-tatweel", api.Options{}, api.ErrOption}, {"rtl seen", api.Options{}, api.ErrOption},
	} {
		parse(t, c.s, c.want, c.err)
	}
}

// P11.2: what is no word: other letters, other blanks, parts of words, what is ill.
func TestParseWord(t *testing.T) {
	for _, s := range []string{
		"x", "rtl x", "LTR", "Rtl", "rtl,letters", "rtlletters", "rtl-letters", "lam-off", "mark-keep", "digit-keep", "lam", "mark", "near", "-", "0", "first",
		"\t", "rtl\tletters", "rtl\n", "\nrtl", "rtl\r", "rtl\u00A0letters", "\u00A0", "rtl\u3000strip", "rtl\u2003", "rtl\u0085", "rtl\x85", "rtl\v", "rtl\f",
		"\x00", "rtl\x00", "\xFF", "rtl \xFF", "rtl\xC2", "\uFEFFrtl", "r\u0442l", "\"rtl\"", "rtl;", "rtl letters lam-near.",
	} {
		parse(t, s, api.Options{}, api.ErrWord)
	}
	words := spell.Words()
	for _, w := range words {
		for end := 1; end < len(w); end++ {
			for _, part := range []string{w[:end], w[end:]} {
				if !slices.Contains(words, part) {
					parse(t, part, api.Options{}, api.ErrWord)
				}
			}
		}
		for b := range 256 {
			if b != ' ' && !slices.Contains(words, w+string([]byte{byte(b)})) {
				parse(t, w+string([]byte{byte(b)}), api.Options{}, api.ErrWord)
			}
		}
		parse(t, strings.ToUpper(w), api.Options{}, api.ErrWord)
		parse(t, w+w, api.Options{}, api.ErrWord)
	}
}

// P11.2: each word, and each two: what they say, or that they say something of one field; also words that say what they would be without.
func TestParsePairs(t *testing.T) {
	for i, a := range fieldWords {
		for n, first := range a {
			says := saying(i, n)
			parse(t, first, says, option.Check(says))
			for j, b := range fieldWords {
				for m, second := range b {
					if i == j {
						parse(t, first+" "+second, api.Options{}, api.ErrTwice)
						continue
					}
					two := both(says, saying(j, m))
					parse(t, first+"  "+second, two, option.Check(two))
				}
			}
		}
	}
}

// P11.2: of several errors: that of length ahead of all, those of words from left to right, that of options behind all.
func TestParseOrder(t *testing.T) {
	for s, want := range map[string]api.Errno{
		"rtl ltr": api.ErrTwice, "ltr ltr": api.ErrTwice, "strip strip": api.ErrTwice, "letters lam-near strip letters": api.ErrTwice,
		"rtl rtl x": api.ErrTwice, "rtl x rtl": api.ErrWord, "x rtl rtl": api.ErrWord, "x x": api.ErrWord,
		"marks marks": api.ErrTwice, "marks x": api.ErrWord, "marks reorder marks x": api.ErrTwice, "lam-near lam-end": api.ErrTwice,
		strings.Repeat("rtl ", 250): api.ErrTwice, strings.Repeat("rtl ", 251): api.ErrLong, strings.Repeat("x", 1000): api.ErrWord, strings.Repeat("x", 1001): api.ErrLong,
	} {
		parse(t, s, api.Options{}, want)
	}
}

// P11.2: 1000 bytes are not too long, 1001 are, whatever they are.
func TestParseLong(t *testing.T) {
	strip := api.Options{Strip: true}
	parse(t, strings.Repeat(" ", 995)+"strip", strip, api.OK)
	parse(t, strings.Repeat(" ", 996)+"strip", strip, api.ErrLong)
	parse(t, "strip"+strings.Repeat(" ", 995), strip, api.OK)
	parse(t, "strip"+strings.Repeat(" ", 996), strip, api.ErrLong)
	parse(t, strings.Repeat(" ", 1000), api.Options{}, api.OK)
	parse(t, strings.Repeat(" ", 1001), api.Options{}, api.ErrLong)
	parse(t, strings.Repeat("\u0628", 500), api.Options{}, api.ErrWord)
	parse(t, strings.Repeat("\u0628", 501), api.Options{}, api.ErrLong)
	parse(t, strings.Repeat(" ", 1<<20), api.Options{}, api.ErrLong)
}
