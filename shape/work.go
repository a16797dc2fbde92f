package shape

import (
	"slices"

	"naskh/api"
	"naskh/cells"
	"naskh/lamalef"
	"naskh/mark"
	"naskh/option"
	"naskh/props"
)

// space is what stands somewhere for the place that a lam and an alef leave when they become one.
const space = 0x20

// A work is a text at work, and the cells of what becomes of it.
type work struct {
	*cells.Cells
	text, types []int
	pairs       []api.Pair // the lams and alefs that become one
}

// A way tells what becomes of the code at a place, and whether it is for such codes.
type way func(at int) ([]int, bool)

// check says whether options go together, and a text is as long as there may be one.
func check(text []int, o api.Options) api.Errno {
	if err := option.Check(o); err != api.OK {
		return err
	}
	if len(text) > api.MaxText {
		return api.ErrLong
	}
	return api.OK
}

// begin tells a text at work, of which nothing has become anything.
func begin(p *props.Props, text []int, o api.Options) (*work, api.Errno) {
	if err := check(text, o); err != api.OK {
		return nil, err
	}
	c, err := cells.New(len(text))
	if err != api.OK {
		return nil, err
	}
	w := &work{Cells: c, text: text, types: p.Joins(text)}
	if o.LamAlef != api.LamOff {
		w.pairs = lamalef.Find(text, w.types, o.Through)
	}
	return w, api.OK
}

// become has each place become what the first of the ways that is for it says, or else stay its code.
func (w *work) become(ways ...way) {
	found := func(at int) []int {
		for _, tell := range ways {
			if codes, ok := tell(at); ok {
				return codes
			}
		}
		return w.text[at : at+1 : at+1]
	}
	for at := range w.text {
		w.Set(at, found(at)...)
	}
}

// marks tells the way of tashkeel, and has the two of each pile belong together. The mode need not be asked for that: options with piles have one that keeps marks.
func (w *work) marks(mode int, pile bool) way {
	if pile {
		for _, at := range mark.Piles(w.text) {
			w.Join(api.Span{Lo: at, Hi: at + 2})
		}
	}
	all := mark.All(w.text, w.types, mode, pile)
	return func(at int) ([]int, bool) { return all[at], mark.Tashkeel(w.text[at]) }
}

// ligate has each pair become one, and leaves its space where a mode has it.
func (w *work) ligate(mode int) {
	spaces := slices.Repeat([]int{space}, len(w.pairs))
	switch mode {
	case api.LamNear:
		w.pair(space)
	case api.LamBegin:
		w.pair()
		w.Ahead(spaces...) // behind all others: whoever sets the first place takes away what stands ahead of it
	case api.LamEnd:
		w.pair()
		w.Behind(spaces...)
	default:
		w.pair()
	}
}

// pair has the lam of each pair become what both are, and its alef what is left of it.
func (w *work) pair(left ...int) {
	for i, code := range lamalef.Codes(w.text, w.types, w.pairs) {
		lam, alef := w.pairs[i].Open, w.pairs[i].Close
		w.Set(lam, code)
		w.Set(alef, left...)
		w.Join(api.Span{Lo: lam, Hi: alef + 1})
	}
}
