package index

import (
	"slices"

	"naskh/api"
)

// A ruler is laid along units: it has a stroke where each code begins, and one where the last code ends. One that newRuler made has a stroke at least.
type ruler struct{ strokes []int }

// newRuler tells the ruler of codes that have so many units each.
func newRuler(sizes []int) ruler {
	strokes := make([]int, 1, len(sizes)+1)
	for code, size := range sizes {
		strokes = append(strokes, strokes[code]+size)
	}
	return ruler{strokes}
}

// codes tells how many codes lie along the ruler.
func (r *ruler) codes() int { return len(r.strokes) - 1 }

// units tells how long the ruler is.
func (r *ruler) units() int { return r.strokes[r.codes()] }

// stretch tells the units of a span of codes.
func (r *ruler) stretch(codes api.Span) api.Span {
	return api.Span{Lo: r.strokes[codes.Lo], Hi: r.strokes[codes.Hi]}
}

// ahead tells how many codes begin ahead of a unit, and whether there is a stroke at it.
func (r *ruler) ahead(unit int) (int, bool) { return slices.BinarySearch(r.strokes, unit) }
