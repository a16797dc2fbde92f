package shape

import (
	"naskh/api"
	"naskh/forms"
	"naskh/join"
	"naskh/tail"
)

// A letter is a code that joins, and the form in which it does.
type letter struct{ code, form int }

// A look is what a letter comes to be, and whether that is anything else than its code.
type look struct {
	codes []int
	ok    bool
}

// shaped tells a letter at the end with its tail, or else in its form, if it has one.
func (l letter) shaped(seen, yeh bool) look {
	if codes, ok := tail.Tail(l.code, l.form, seen, yeh); ok {
		return look{codes, true}
	}
	if code, ok := forms.Form(l.code, l.form); ok {
		return look{[]int{code}, true}
	}
	return look{}
}

// letters tells the way of letters. It looks each one up once: that takes long, and a text may have many, but of few kinds.
func (w *work) letters(seen, yeh bool) way {
	known := map[letter]look{}
	joined := join.Forms(w.types)
	return func(at int) ([]int, bool) {
		l := letter{w.text[at], joined[at]}
		if l.form == api.FormNone {
			return nil, false
		}
		is, ok := known[l]
		if !ok {
			is = l.shaped(seen, yeh)
			known[l] = is
		}
		return is.codes, is.ok
	}
}
