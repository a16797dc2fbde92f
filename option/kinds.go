package option

import "naskh/api"

// kinds are the numbers that options have: Direction, LamAlef, Tashkeel, Digits.
type kinds [4]int

// sizes are how many there are of each kind, from 0 on.
var sizes = [4]int{4, 5, 5, 5}

// allKinds is how many there are of all kinds together.
const allKinds = 4 * 5 * 5 * 5

// kindsOf tells the kinds of options.
func kindsOf(o api.Options) kinds {
	return kinds{o.Direction, o.LamAlef, o.Tashkeel, o.Digits}
}

// put gives options these kinds.
func (k kinds) put(o *api.Options) {
	o.Direction, o.LamAlef, o.Tashkeel, o.Digits = k[0], k[1], k[2], k[3]
}

// nearest tells the kinds next to these that there may be: these, if they may be themselves.
func (k kinds) nearest() kinds {
	for i, size := range sizes {
		k[i] = min(max(k[i], 0), size-1)
	}
	return k
}

// number tells kinds that may be as one number below allKinds, in which the first kind counts least.
func (k kinds) number() int {
	n, one := 0, 1
	for i, size := range sizes {
		n += k[i] * one
		one *= size
	}
	return n
}

// numbered tells the kinds of a number below allKinds.
func numbered(n int) (k kinds) {
	for i, size := range sizes {
		k[i] = n % size
		n /= size
	}
	return k
}
