// Package wide is layer 1, UTF-16 as codes and back: see ../../shared/doc/01-wide.md.
package wide

import (
	"slices"

	"naskh/api"
)

// Where units and codes change their kind.
const (
	firstHigh = 0xD800 // units from here on may be the first one of a pair
	firstLow  = 0xDC00 // units from here on may be the second one
	lastLow   = 0xDFFF
	firstPair = 0x10000 // codes from here on have two units
)

// A stretch is codes from lo to hi that have size units each.
type stretch struct{ lo, hi, size int }

// stretches has every code that units can make: what lies in none of them is no code here.
var stretches = [4]stretch{
	{0, firstHigh - 1, 1},
	{lastLow + 1, firstPair - 1, 1},
	{firstPair, api.MaxCode, 2},
	{api.IllBase + firstHigh, api.IllBase + lastLow, 1},
}

// Decode tells the codes of u; units that are ill become codes of their own, so that nothing is lost.
func Decode(u []uint16) []int {
	codes := make([]int, 0, len(u))
	for len(u) > 0 {
		code, size := first(u)
		codes = append(codes, code)
		u = u[size:]
	}
	return codes
}

// first tells the code at the beginning of u, and how many units it takes.
func first(u []uint16) (code, size int) {
	unit := int(u[0])
	switch {
	case !inPairs(unit):
		return unit, 1
	case unit < firstLow && len(u) > 1 && isLow(int(u[1])):
		return firstPair + (unit-firstHigh)*0x400 + int(u[1]) - firstLow, 2
	}
	return api.IllBase + unit, 1
}

// inPairs says whether a unit is one that has a meaning in pairs only.
func inPairs(unit int) bool { return unit >= firstHigh && unit <= lastLow }

// isLow says whether a unit may be the second one of a pair.
func isLow(unit int) bool { return unit >= firstLow && unit <= lastLow }

// Encode tells the units of codes, or ErrCode, if one of them is none.
func Encode(codes []int) ([]uint16, api.Errno) {
	room := 0
	if slices.ContainsFunc(codes, func(code int) bool {
		size := Size(code)
		room += size
		return size == 0
	}) {
		return nil, api.ErrCode
	}
	units := make([]uint16, 0, room)
	for _, code := range codes {
		units = appendCode(units, code)
	}
	return units, api.OK
}

// appendCode puts the units of a code, which must be one, behind units.
func appendCode(units []uint16, code int) []uint16 {
	switch {
	case code >= api.IllBase:
		return append(units, uint16(code-api.IllBase))
	case code >= firstPair:
		above := code - firstPair
		return append(units, uint16(firstHigh+above/0x400), uint16(firstLow+above%0x400))
	}
	return append(units, uint16(code))
}

// Size tells how many units a code has: 0, if it is none.
func Size(code int) int {
	for _, s := range stretches {
		if code >= s.lo && code <= s.hi {
			return s.size
		}
	}
	return 0
}

// Sizes tells the Size of each code.
func Sizes(codes []int) []int {
	sizes := make([]int, len(codes))
	for i, code := range codes {
		sizes[i] = Size(code)
	}
	return sizes
}

// Whole says whether a code is a code point, and no surrogate.
func Whole(code int) bool {
	return code >= 0 && code <= api.MaxCode && !inPairs(code)
}
