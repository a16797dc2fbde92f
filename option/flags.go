package option

import "naskh/api"

// The bits of flags, and behind them how many numbers they make.
const (
	eastern = 1 << iota
	letters
	through
	pile
	seen
	yeh
	reorder
	marks
	mirror
	strip
	allFlags
)

// A flag is a bit, and the field of options that it stands for.
type flag struct {
	bit   int
	field *bool
}

// flagsOf tells the flags of options, whose fields may be set through them.
func flagsOf(o *api.Options) []flag {
	return []flag{
		{eastern, &o.Eastern}, {letters, &o.Letters}, {through, &o.Through}, {pile, &o.Pile}, {seen, &o.Seen},
		{yeh, &o.Yeh}, {reorder, &o.Reorder}, {marks, &o.Marks}, {mirror, &o.Mirror}, {strip, &o.Strip},
	}
}

// bitsOf tells the bits of the flags that are set.
func bitsOf(o api.Options) int {
	n := 0
	for _, f := range flagsOf(&o) {
		if *f.field {
			n |= f.bit
		}
	}
	return n
}

// putBits sets the flags of these bits, and no others.
func putBits(o *api.Options, bits int) {
	for _, f := range flagsOf(o) {
		*f.field = bits&f.bit != 0
	}
}
