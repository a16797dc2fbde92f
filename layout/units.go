package layout

import (
	"naskh/api"
	"naskh/breaks"
	"naskh/index"
	"naskh/narrow"
	"naskh/props"
	"naskh/wide"
)

// A coding is a way in which codes are put as units.
type coding[U any] interface {
	decode(text []U) []int
	encode(codes []int) ([]U, api.Errno)
	sizes(codes []int) []int
}

// wideUnits is UTF-16.
type wideUnits struct{}

func (wideUnits) decode(text []uint16) []int               { return wide.Decode(text) }
func (wideUnits) encode(codes []int) ([]uint16, api.Errno) { return wide.Encode(codes) }
func (wideUnits) sizes(codes []int) []int                  { return wide.Sizes(codes) }

// narrowUnits is UTF-8.
type narrowUnits struct{}

func (narrowUnits) decode(text []byte) []int               { return narrow.Decode(text) }
func (narrowUnits) encode(codes []int) ([]byte, api.Errno) { return narrow.Encode(codes) }
func (narrowUnits) sizes(codes []int) []int                { return narrow.Sizes(codes) }

// units lays out a text of units, and tells those of what is seen, for which there must be room.
func units[U any](c coding[U], p *props.Props, text []U, o api.Options, room int, ends []int) ([]U, api.Result, api.Errno) {
	fail := func(err api.Errno) ([]U, api.Result, api.Errno) { return nil, api.Result{}, err }
	if err := checkUnits(len(text), o, room, ends); err != api.OK {
		return fail(err)
	}
	codes := c.decode(text)
	in, err := index.New(c.sizes(codes)...)
	if err != api.OK {
		return fail(err)
	}
	places, err := ahead(in, ends)
	if err != api.OK {
		return fail(err)
	}
	r, err := Codes(p, codes, o, places...)
	if err != api.OK {
		return fail(err)
	}
	seen, err := c.encode(r.Codes)
	switch {
	case err != api.OK:
		return fail(err)
	case len(seen) > room:
		return fail(api.ErrRoom)
	}
	r.Clusters, err = inUnits(r.Clusters, in, c.sizes(r.Codes))
	if err != api.OK {
		return fail(err)
	}
	return seen, r, api.OK
}

// checkUnits says whether options go together, and so many units, room and breaks are such as there may be.
func checkUnits(n int, o api.Options, room int, ends []int) api.Errno {
	if err := check(n, o); err != api.OK {
		return err
	}
	if room < 0 {
		return api.ErrArg
	}
	return breaks.Check(n, ends...)
}

// ahead tells of each break in units how many codes are ahead of it.
func ahead(in *index.Index, ends []int) ([]int, api.Errno) {
	places := make([]int, len(ends))
	for which, unit := range ends {
		code, err := in.Break(unit)
		if err != api.OK {
			return nil, err
		}
		places[which] = code
	}
	return places, api.OK
}

// inUnits tells a map of codes as one of their units: of those that went in, and of what is seen, whose sizes these are.
func inUnits(l []api.Cluster, in *index.Index, sizes []int) ([]api.Cluster, api.Errno) {
	out, err := index.New(sizes...)
	if err != api.OK {
		return nil, err
	}
	return in.Clusters(l, out)
}
