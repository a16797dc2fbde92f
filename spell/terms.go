package spell

import "naskh/api"

// The fields of options, and behind them how many there are.
const (
	direction = iota
	lamAlef
	tashkeel
	digits
	eastern
	letters
	through
	pile
	seen
	yeh
	reorder
	marks
	mirror
	strip
	allFields
)

// set is the number of a flag that is set.
const set = 1

// A term is a word, and what it says: the number that a field has.
type term struct {
	word          string
	field, number int
}

// terms are in the words' order.
var terms = [...]term{
	{"ltr", direction, api.DirLeft},
	{"rtl", direction, api.DirRight},
	{"first-ltr", direction, api.DirFirstLeft},
	{"first-rtl", direction, api.DirFirstRight},
	{"lam-resize", lamAlef, api.LamResize},
	{"lam-near", lamAlef, api.LamNear},
	{"lam-begin", lamAlef, api.LamBegin},
	{"lam-end", lamAlef, api.LamEnd},
	{"mark-isolated", tashkeel, api.MarkIsolated},
	{"mark-medial", tashkeel, api.MarkMedial},
	{"mark-remove", tashkeel, api.MarkRemove},
	{"mark-tatweel", tashkeel, api.MarkTatweel},
	{"to-arabic", digits, api.DigitToArabic},
	{"to-european", digits, api.DigitToEuropean},
	{"context-ltr", digits, api.DigitContextLeft},
	{"context-arabic", digits, api.DigitContextArabic},
	{"eastern", eastern, set},
	{"letters", letters, set},
	{"through", through, set},
	{"pile", pile, set},
	{"seen", seen, set},
	{"yeh", yeh, set},
	{"reorder", reorder, set},
	{"marks", marks, set},
	{"mirror", mirror, set},
	{"strip", strip, set},
}

// fields are the numbers of all fields.
type fields [allFields]int

// fieldsOf tells the fields of options.
func fieldsOf(o api.Options) fields {
	return fields{
		direction: o.Direction, lamAlef: o.LamAlef, tashkeel: o.Tashkeel, digits: o.Digits,
		eastern: number(o.Eastern), letters: number(o.Letters), through: number(o.Through), pile: number(o.Pile), seen: number(o.Seen),
		yeh: number(o.Yeh), reorder: number(o.Reorder), marks: number(o.Marks), mirror: number(o.Mirror), strip: number(o.Strip),
	}
}

// number tells the number of a flag.
func number(flag bool) int {
	if flag {
		return set
	}
	return 0
}

// options tells the options that have these fields.
func (f fields) options() api.Options {
	return api.Options{
		Direction: f[direction], LamAlef: f[lamAlef], Tashkeel: f[tashkeel], Digits: f[digits],
		Eastern: f[eastern] == set, Letters: f[letters] == set, Through: f[through] == set, Pile: f[pile] == set, Seen: f[seen] == set,
		Yeh: f[yeh] == set, Reorder: f[reorder] == set, Marks: f[marks] == set, Mirror: f[mirror] == set, Strip: f[strip] == set,
	}
}
