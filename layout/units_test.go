package layout_test

import (
	"bytes"
	"math"
	"slices"
	"testing"

	"naskh/api"
	"naskh/layout"
	"naskh/narrow"
	"naskh/option"
	"naskh/props"
	"naskh/wide"
)

// A kind is one of units, and the calls that go with it.
type kind[U uint16 | byte] struct {
	decode func(text []U) []int
	encode func(codes []int) ([]U, api.Errno)
	size   func(code int) int
	layout func(p *props.Props, text []U, o api.Options, room int, ends ...int) ([]U, api.Result, api.Errno)
}

// Both kinds.
var (
	wides   = kind[uint16]{wide.Decode, wide.Encode, wide.Size, layout.Wide}
	narrows = kind[byte]{narrow.Decode, narrow.Encode, narrow.Size, layout.Narrow}
)

// starts tells where each code begins among units, and where the last one ends.
func (k kind[U]) starts(codes []int) []int {
	l := []int{0}
	for at, code := range codes {
		l = append(l, l[at]+k.size(code))
	}
	return l
}

// want tells what a layout of units is to answer.
func (k kind[U]) want(p *props.Props, text []U, o api.Options, room int, ends []int) ([]U, api.Result, api.Errno) {
	if err := option.Check(o); err != api.OK {
		return nil, api.Result{}, err
	}
	if room < 0 {
		return nil, api.Result{}, api.ErrArg
	}
	for i, end := range ends {
		if end <= 0 || end >= len(text) || i > 0 && end <= ends[i-1] {
			return nil, api.Result{}, api.ErrBreak
		}
	}
	codes := k.decode(text)
	in := k.starts(codes)
	var places []int
	for _, end := range ends {
		place := slices.Index(in, end)
		if place < 0 {
			return nil, api.Result{}, api.ErrSplit
		}
		places = append(places, place)
	}
	r, err := newModel(p, codes, o, places)
	if err != api.OK {
		return nil, api.Result{}, err
	}
	units, _ := k.encode(r.Codes)
	if len(units) > room {
		return nil, api.Result{}, api.ErrRoom
	}
	out := k.starts(r.Codes)
	for i, c := range r.Clusters {
		r.Clusters[i] = to(in[c.In.Lo], in[c.In.Hi], out[c.Out.Lo], out[c.Out.Hi])
	}
	return units, r, api.OK
}

// holds fails unless a layout of units answers what the promises say; it tells how many units that are.
func (k kind[U]) holds(t *testing.T, p *props.Props, text []U, o api.Options, room int, ends []int) int {
	t.Helper()
	units, want, wrong := k.want(p, text, o, room, ends)
	was := slices.Clone(text)
	got, r, err := k.layout(p, text, o, room, ends...)
	if err != wrong || !slices.Equal(got, units) || !alike(r, want) || err != api.OK && (got != nil || !empty(r)) {
		t.Fatalf("of %x, %+v, room %d, %d: %x, %+v, %d, not %x, %+v, %d", text, o, room, ends, got, r, err, units, want, wrong)
	}
	if !slices.Equal(text, was) {
		t.Fatalf("%x was changed to %x", was, text)
	}
	return len(got)
}

// rooms fails unless a layout holds with room enough, just enough, one too few, none, and less than none.
func (k kind[U]) rooms(t *testing.T, p *props.Props, text []U, o api.Options, ends []int) {
	t.Helper()
	n := k.holds(t, p, text, o, math.MaxInt, ends)
	for _, room := range []int{n, n - 1, 0, -1} {
		k.holds(t, p, text, o, room, ends)
	}
}

// short are the ways in which every short text of units is laid out.
var short = []api.Options{
	{}, left, marked, shown,
	{Direction: api.DirRight, LamAlef: api.LamResize, Letters: true, Through: true, Reorder: true, Mirror: true, Strip: true},
	{LamAlef: api.LamBegin, Letters: true, Yeh: true, Reorder: true, Marks: true},
}

// everyShort fails unless every text of up to n of these units holds, with all breaks and rooms: in all ways, the longest ones in one way each.
func everyShort[U uint16 | byte](t *testing.T, k kind[U], n int, units []U) {
	p := props.New()
	count := 0
	for m := range n {
		each(m, units, func(text []U) {
			for _, o := range short {
				cuts(m, func(ends []int) { k.rooms(t, p, text, o, ends) })
			}
		})
	}
	each(n, units, func(text []U) {
		count++
		cuts(n, func(ends []int) { k.rooms(t, p, text, short[count%len(short)], ends) })
	})
}

// everyPieces fails unless every text of up to n of these pieces holds, with no break and with each one alone, in each way.
func everyPieces[U uint16 | byte](t *testing.T, k kind[U], n int, pieces [][]U) {
	p := props.New()
	for m := range n + 1 {
		each(m, pieces, func(l [][]U) {
			text := slices.Concat(l...)
			for _, o := range ways {
				k.holds(t, p, text, o, 3*len(text), nil)
			}
			for end := range len(text) + 1 {
				k.holds(t, p, text, short[end%len(short)], 3*len(text), []int{end})
			}
		})
	}
}

// P34.4, P34.5: every text of up to four of these units, halves of pairs among them.
func TestWide(t *testing.T) {
	everyShort(t, wides, 4, []uint16{latin, alef, lam, fatha, toRight, 0xD83D, 0xDE00})
	everyPieces(t, wides, 4, [][]uint16{{alef}, {lam}, {fatha}, {0xD83D, 0xDE00}, {0xDBFF}, {0xDC00}, {paragraph}, {yeh}})
}

// P34.4, P34.5: every text of up to four of these bytes, which are those of letters and of a control, and ill; of whole codes, and some that are cut off.
func TestNarrow(t *testing.T) {
	everyShort(t, narrows, 4, []byte{latin, 0xD8, 0xA7, 0xE2, 0x80, 0x8F})
	everyPieces(t, narrows, 4, [][]byte{[]byte("\u0627"), []byte("\u0644"), []byte("\u064E"), []byte("\u200F"), []byte("\U0001F600"), []byte("\u2029"), []byte("\u0626"), {0xE2, 0x80}, {0xFF}})
}

// P34.4: by hand: the units, the map in units, and where lines end.
func TestUnitsByHand(t *testing.T) {
	p := props.New()
	u := []uint16{0xD83D, 0xDE00, latin}
	units, r, err := layout.Wide(p, u, api.Options{}, 3, 2)
	if want := []api.Cluster{to(0, 2, 0, 2), to(2, 3, 2, 3)}; err != api.OK || !slices.Equal(units, u) || !slices.Equal(r.Clusters, want) || !slices.Equal(r.Codes, []int{0x1F600, latin}) || len(r.Lines) != 2 {
		t.Error(units, r, err)
	}
	units, r, err = layout.Wide(p, []uint16{bet, 0xD83D, 0xDE00, 0xDC00}, right, 9)
	if want := []api.Cluster{to(0, 1, 3, 4), to(1, 3, 1, 3), to(3, 4, 0, 1)}; err != api.OK || !slices.Equal(units, []uint16{0xDC00, 0xD83D, 0xDE00, bet}) || !slices.Equal(r.Clusters, want) {
		t.Error(units, r, err)
	}
	b, r, err := layout.Narrow(p, []byte("a\u0644\u0627\xFFb"), resize, 100, 5)
	if want := []api.Cluster{to(0, 1, 0, 1), to(1, 5, 1, 4), to(5, 6, 4, 5), to(6, 7, 5, 6)}; err != api.OK || !bytes.Equal(b, []byte("a\uFEFB\xFFb")) || !slices.Equal(r.Clusters, want) || len(r.Lines) != 2 {
		t.Error(b, r, err)
	}
	b, r, err = layout.Narrow(p, []byte("\u0627\u064E"), marked, 4)
	if want := []api.Cluster{to(0, 4, 0, 4)}; err != api.OK || string(b) != "\u0627\u064E" || !slices.Equal(r.Clusters, want) {
		t.Error(b, r, err)
	}
	b, r, err = layout.Narrow(p, nil, left, 0)
	if err != api.OK || len(b) != 0 || len(r.Clusters) != 0 || len(r.Lines) != 0 {
		t.Error(b, r, err)
	}
}

// refusedUnits fails unless a layout refuses a text as it is to.
func refusedUnits[U uint16 | byte](t *testing.T, k kind[U], text []U, o api.Options, room int, want api.Errno, ends ...int) {
	t.Helper()
	if units, r, err := k.layout(props.New(), text, o, room, ends...); err != want || units != nil || !empty(r) {
		t.Errorf("of %d, %+v, room %d, %d: %d units, %d, not %d", len(text), o, room, ends, len(units), err, want)
	}
}

// refusedInOrder fails unless a kind of units, with those of one code that has several, and of a mark, refuses what may not be, the first error first.
func refusedInOrder[U uint16 | byte](t *testing.T, k kind[U], smile, mark []U) {
	long := slices.Repeat([]U{latin}, api.MaxText+1)
	wrong, unlike := api.Options{Direction: 4, LamAlef: api.LamNear}, api.Options{LamAlef: api.LamNear}
	remove := api.Options{Letters: true, Tashkeel: api.MarkRemove}
	refusedUnits(t, k, long, wrong, -1, api.ErrArg, 2, 2)
	refusedUnits(t, k, long, unlike, -1, api.ErrOption, 2, 2)
	refusedUnits(t, k, long, remove, -1, api.ErrLong, 2, 2)
	refusedUnits(t, k, long[:api.MaxText], remove, -1, api.ErrArg, 2, 2)
	refusedUnits(t, k, long[:api.MaxText], remove, math.MinInt, api.ErrArg, 2, 2)
	refusedUnits(t, k, long[:api.MaxText], remove, 0, api.ErrBreak, 2, 2)
	refusedUnits(t, k, smile, remove, 0, api.ErrBreak, 1, 1)
	refusedUnits(t, k, smile, remove, 0, api.ErrBreak, 1, len(smile))
	refusedUnits(t, k, smile, remove, 0, api.ErrSplit, 1)
	refusedUnits(t, k, slices.Concat(mark, smile), remove, 0, api.ErrSplit, len(mark), len(mark)+1)
	refusedUnits(t, k, slices.Concat(smile, mark), marked, 0, api.ErrSplit, len(smile))
	refusedUnits(t, k, slices.Concat(mark, mark), remove, 0, api.ErrAllRemoved, len(mark))
	refusedUnits(t, k, smile, remove, len(smile)-1, api.ErrRoom)
	refusedUnits(t, k, smile, remove, 0, api.ErrRoom)
	refusedUnits(t, k, nil, remove, -1, api.ErrArg)
	refusedUnits(t, k, nil, remove, 0, api.ErrBreak, 0)
}

// P34.4: what is refused; which error is first.
func TestRefusedUnits(t *testing.T) {
	refusedInOrder(t, wides, []uint16{0xD83D, 0xDE00}, []uint16{fatha})
	refusedInOrder(t, narrows, []byte("\U0001F600"), []byte("\u064E"))
}

// P34.4: MaxText units, which become fewer codes; and bytes that become more than an index (5) has, for which there is room.
func TestMostUnits(t *testing.T) {
	p := props.New()
	text := bytes.Repeat([]byte("\U0001F600"), api.MaxText/4)
	b, r, err := layout.Narrow(p, text, right, api.MaxText, 4)
	if err != api.OK || !bytes.Equal(b, text) || len(r.Clusters) != api.MaxText/4 || r.Clusters[1] != to(4, 8, api.MaxText-4, api.MaxText) {
		t.Fatal(err, len(b), len(r.Clusters))
	}
	more := bytes.Repeat([]byte("\u0633 "), api.MaxText/7+1) // each becomes seven bytes
	refusedUnits(t, narrows, more, api.Options{Letters: true, Seen: true}, math.MaxInt, api.ErrLong)
}

// R1: what New did not make knows nothing, and nothing panics.
func TestUnitsWithoutProps(t *testing.T) {
	for _, p := range []*props.Props{nil, {}} {
		for _, o := range ways {
			layout.Wide(p, []uint16{lam, fatha, alef, 0xD83D, toRight, paragraph, one}, o, 50, 3)
			layout.Narrow(p, []byte("\u0644\u064E\u0627\u200F\u2029\xFF"), o, 50, 4)
		}
	}
}

// ownUnits fails unless what is answered is one's own, and what was given is as it was, its spare room too.
func ownUnits[U uint16 | byte](t *testing.T, k kind[U], room []U) {
	p := props.New()
	endRoom := []int{1, 77, 77}
	was, text := slices.Clone(room), room[:len(room)-3]
	for _, o := range ways {
		units, r, _ := k.layout(p, text, o, 99, endRoom[:1]...)
		clear(units[:cap(units)])
		clear(r.Clusters[:cap(r.Clusters)])
		for _, list := range lists(r) {
			clear(list[:cap(list)])
		}
		k.holds(t, p, text, o, 99, endRoom[:1])
	}
	if !slices.Equal(room, was) || !slices.Equal(endRoom, []int{1, 77, 77}) {
		t.Error("what was given is not what it was", room, endRoom)
	}
}

// R3: of both kinds.
func TestOwnUnits(t *testing.T) {
	ownUnits(t, wides, []uint16{latin, alef, fatha, '(', 0xD83D, 0xDE00, 77, 77, 77})
	ownUnits(t, narrows, []byte("a\u0627\u064E(\U0001F600MMM"))
}
