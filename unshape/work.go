package unshape

import (
	"naskh/api"
	"naskh/cells"
	"naskh/forms"
	"naskh/props"
	"naskh/tail"
)

// space is what stands somewhere for the place that a lam and an alef left when they became one.
const space = 0x20

// A work is a text at work, and the cells of what becomes of it.
type work struct {
	*cells.Cells
	text []int
}

// begin tells a text at work, of which each code has become what become says.
func begin(text []int, become func(code int) []int) (*work, api.Errno) {
	if len(text) > api.MaxText {
		return nil, api.ErrLong
	}
	c, err := cells.New(len(text))
	if err != api.OK {
		return nil, err
	}
	w := &work{c, text}
	for at, code := range text {
		w.Set(at, become(code)...)
	}
	return w, api.OK
}

// share has all from one place to another belong together: the first one has a code, the last one as many as there are.
func (w *work) share(first, last int, code int, codes ...int) {
	w.Set(first, code)
	w.Set(last, codes...)
	w.Join(api.Span{Lo: first, Hi: last + 1})
}

// tails has each letter with its tail behind it become that letter.
func (w *work) tails(seen, yeh bool) {
	for at := 0; at+1 < len(w.text); at++ {
		if letter, ok := tail.Back(w.text[at], w.text[at+1], seen, yeh); ok {
			w.share(at, at+1, letter)
			at++
		}
	}
}

// spaces has each lam with alef take back the space that a mode has left for it.
func (w *work) spaces(p *props.Props, lamAlef int) api.Errno {
	places, first := ligatures(w.text), 0
	switch lamAlef {
	case api.LamNear:
		return w.near(p, places)
	case api.LamEnd:
		first = len(w.text) - len(places)
		fallthrough
	case api.LamBegin:
		return w.clear(first, len(places))
	}
	return api.OK
}

// near has the alef of each lam with alef go to its space, behind its marks.
func (w *work) near(p *props.Props, places []int) api.Errno {
	mark := func(code int) bool { return accent(code) || p.Join(code) == api.JoinT }
	for _, at := range places {
		to := at + 1
		for to < len(w.text) && mark(w.text[to]) {
			to++
		}
		if to == len(w.text) || w.text[to] != space {
			return api.ErrSpace
		}
		alef, _, _ := forms.Parted(w.text[at])
		w.share(at, to, lam, alef)
	}
	return api.OK
}

// clear takes n spaces away, from the first one on.
func (w *work) clear(first, n int) api.Errno {
	for at := first; at < first+n; at++ {
		if w.text[at] != space {
			return api.ErrSpace
		}
		w.Set(at)
	}
	return api.OK
}
