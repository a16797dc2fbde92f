package unshape

import "naskh/forms"

// What forms are made of, beside the letter or the mark that they tell.
const (
	lam    = 0x644
	shadda = 0x651
)

// itself tells a code as it is.
func itself(code int) []int { return []int{code} }

// ligature says whether a code is a lam with alef.
func ligature(code int) bool {
	_, _, ok := forms.Parted(code)
	return ok
}

// ligatures tells the places of each lam with alef.
func ligatures(text []int) []int {
	var places []int
	for at, code := range text {
		if ligature(code) {
			places = append(places, at)
		}
	}
	return places
}

// accent says whether a code is the form of a mark, or a pile.
func accent(code int) bool {
	_, _, mark := forms.Mark(code)
	_, pile := forms.Unpile(code)
	return mark || pile
}

// part tells what a form of any kind is made of, and whether the code is one.
func part(code int) ([]int, bool) {
	if base, _, ok := forms.Base(code); ok {
		return []int{base}, true
	}
	if alef, _, ok := forms.Parted(code); ok {
		return []int{lam, alef}, true
	}
	if mark, _, ok := forms.Mark(code); ok {
		return []int{mark}, true
	}
	if mark, ok := forms.Unpile(code); ok {
		return []int{shadda, mark}, true
	}
	return nil, false
}

// A form is known by what it is made of.
type form struct{ of []int }

// parts tells the closure that says what a code is made of. It looks each form up once: to look one up takes long, and a text may have many, but of few kinds.
func parts() func(code int) []int {
	known := map[int]form{}
	return func(code int) []int {
		if f, ok := known[code]; ok {
			return f.of
		}
		of, ok := part(code)
		if !ok {
			return itself(code)
		}
		known[code] = form{of}
		return of
	}
}
