// Package narrow is layer 2, UTF-8 as codes and back: see ../../shared/doc/02-narrow.md.
package narrow

import (
	"slices"

	"naskh/api"
	"naskh/wide"
)

// Bytes behind the first one of a sequence hold six bits beside this mark.
const (
	behindMark = 0x80
	behindBits = 6
	behindMask = 1<<behindBits - 1
)

// Bytes that may be ill: those that are no sequence on their own.
const (
	firstIll = 0x80
	lastIll  = 0xFF
)

// lasts has the last code whose sequence is one byte long, two, three, four.
var lasts = [4]int{0x7F, 0x7FF, 0xFFFF, api.MaxCode}

// marks has what the first byte of a sequence holds beside the highest bits, by how long the sequence is.
var marks = [5]int{0, 0, 0xC0, 0xE0, 0xF0}

// lengths has how long a sequence would be, by the four highest bits of its first byte; 0: none begins so.
var lengths = [16]int{1, 1, 1, 1, 1, 1, 1, 1, 0, 0, 0, 0, 2, 2, 3, 4}

// Decode tells the codes of b; bytes that are ill become codes of their own, so that nothing is lost.
func Decode(b []byte) []int {
	codes := make([]int, 0, len(b))
	for len(b) > 0 {
		code, size := first(b)
		codes = append(codes, code)
		b = b[size:]
	}
	return codes
}

// first tells the code at the beginning of b, and how many bytes it takes.
func first(b []byte) (code, size int) {
	size = lengths[b[0]>>4]
	if size > 0 && size <= len(b) {
		if code, ok := sequence(b[:size]); ok {
			return code, size
		}
	}
	return api.IllBase + int(b[0]), 1
}

// sequence tells the code of b, whose first byte has the mark of so long a sequence, and whether b is one.
func sequence(b []byte) (code int, ok bool) {
	code = int(b[0]) - marks[len(b)]
	for _, x := range b[1:] {
		if x&^behindMask != behindMark {
			return 0, false
		}
		code = code<<behindBits | int(x&behindMask)
	}
	// A sequence that is longer than it need be has not the size of its code, a surrogate and what is too great have none.
	return code, Size(code) == len(b)
}

// Encode tells the bytes of codes, or ErrCode, if one of them is none.
func Encode(codes []int) ([]byte, api.Errno) {
	room := 0
	if slices.ContainsFunc(codes, func(code int) bool {
		size := Size(code)
		room += size
		return size == 0
	}) {
		return nil, api.ErrCode
	}
	b := make([]byte, 0, room)
	for _, code := range codes {
		b = appendCode(b, code)
	}
	return b, api.OK
}

// appendCode puts the bytes of a code, which must be one, behind b.
func appendCode(b []byte, code int) []byte {
	if isIll(code) {
		return append(b, byte(code-api.IllBase))
	}
	size := Size(code)
	shift := (size - 1) * behindBits
	b = append(b, byte(marks[size]|code>>shift))
	for shift > 0 {
		shift -= behindBits
		b = append(b, byte(behindMark|code>>shift&behindMask))
	}
	return b
}

// isIll says whether a code is that of a byte that is ill.
func isIll(code int) bool {
	return code >= api.IllBase+firstIll && code <= api.IllBase+lastIll
}

// Size tells how many bytes a code has: 0, if it is none.
func Size(code int) int {
	switch {
	case isIll(code):
		return 1
	case !wide.Whole(code):
		return 0
	}
	size := 1
	for code > lasts[size-1] {
		size++
	}
	return size
}

// Sizes tells the Size of each code.
func Sizes(codes []int) []int {
	sizes := make([]int, len(codes))
	for i, code := range codes {
		sizes[i] = Size(code)
	}
	return sizes
}
