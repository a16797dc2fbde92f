package props

import (
	"naskh/api"
	"naskh/trie"
)

// known is what api's ranges say of codes. Those that newKnown made have both tables.
type known struct{ bidi, join *trie.Table }

// newKnown lays api's ranges out as tables; they rise, so that none is refused.
func newKnown() known {
	bidi, _ := trie.Build(api.BidiRanges(), api.L)
	join, _ := trie.Build(api.JoinRanges(), api.JoinU)
	return known{bidi, join}
}

// class tells the class of a code. The table has L for all that no range has, so that what is no code is not looked up in it.
func (k *known) class(code int) int {
	if code < 0 || code > api.MaxCode {
		return api.ON
	}
	return k.bidi.Get(code)
}

// joining tells the type of a code.
func (k *known) joining(code int) int { return k.join.Get(code) }
