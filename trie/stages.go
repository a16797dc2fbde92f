package trie

import "naskh/api"

const (
	blockSize  = 128
	blockCount = (api.MaxCode + 1) / blockSize
)

// A block is the values of codes side by side.
type block [blockSize]int

// stages find a value in two steps: which of the blocks, and where in it. There is a block at least in those that newStages made.
type stages struct {
	which  [blockCount]uint16
	blocks []block // no two are the same
	none   int
}

// newStages tells the stages of ranges that rise; what lies in none of them has the value none.
func newStages(l []api.Range, none int) stages {
	s := stages{none: none}
	known := map[block]uint16{}
	for i := range s.which {
		var b block
		b, l = cutBlock(i*blockSize, l, none)
		if i > 0 && b == s.blocks[s.which[i-1]] {
			// Most blocks are as the one ahead, and are not looked for among all.
			s.which[i] = s.which[i-1]
			continue
		}
		at, ok := known[b]
		if !ok {
			at = uint16(len(s.blocks))
			known[b] = at
			s.blocks = append(s.blocks, b)
		}
		s.which[i] = at
	}
	return s
}

// cutBlock tells the block from the code lo on, where no range of l ends below lo, and what of l goes on behind it.
func cutBlock(lo int, l []api.Range, none int) (b block, rest []api.Range) {
	for i := range b {
		b[i] = none
	}
	hi := lo + blockSize - 1
	for len(l) > 0 && l[0].Lo <= hi {
		for code := max(lo, l[0].Lo); code <= min(hi, l[0].Hi); code++ {
			b[code-lo] = l[0].Value
		}
		if l[0].Hi > hi {
			break
		}
		l = l[1:]
	}
	return b, l
}

// value tells the value of a code from 0 to MaxCode.
func (s *stages) value(code int) int {
	return s.blocks[s.which[code/blockSize]][code%blockSize]
}

// counts tells of each of the blocks how many of its codes have a value.
func (s *stages) counts(value int) []int {
	l := make([]int, len(s.blocks))
	for i := range s.blocks {
		for _, v := range s.blocks[i] {
			if v == value {
				l[i]++
			}
		}
	}
	return l
}
