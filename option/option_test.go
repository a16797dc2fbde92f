package option_test

import (
	"math"
	"testing"

	"naskh/api"
	"naskh/option"
)

const (
	allKinds = 500
	allFlags = 1024
)

// of lays the options of these kinds and flags out, by the chapter's words.
func of(direction, lamAlef, tashkeel, digits, flags int) api.Options {
	return api.Options{
		Direction: direction, LamAlef: lamAlef, Tashkeel: tashkeel, Digits: digits,
		Eastern: flags&1 != 0, Letters: flags&2 != 0, Through: flags&4 != 0, Pile: flags&8 != 0, Seen: flags&16 != 0,
		Yeh: flags&32 != 0, Reorder: flags&64 != 0, Marks: flags&128 != 0, Mirror: flags&256 != 0, Strip: flags&512 != 0,
	}
}

// asked tells what Check is to say, sentence by sentence.
func asked(o api.Options) api.Errno {
	if o.Direction < 0 || o.Direction > 3 {
		return api.ErrArg
	}
	for _, n := range []int{o.LamAlef, o.Tashkeel, o.Digits} {
		if n < 0 || n > 4 {
			return api.ErrArg
		}
	}
	if !o.Letters {
		if o.LamAlef != 0 || o.Tashkeel != 0 || o.Pile || o.Seen || o.Yeh {
			return api.ErrOption
		}
	}
	if o.Through && o.LamAlef == 0 {
		return api.ErrOption
	}
	if o.Pile && (o.Tashkeel == api.MarkRemove || o.Tashkeel == api.MarkTatweel) {
		return api.ErrOption
	}
	if o.Marks && !o.Reorder {
		return api.ErrOption
	}
	return api.OK
}

// P10.1: Check, by hand: each field at its edges, each of the things that do not go together, and what goes.
func TestCheck(t *testing.T) {
	for _, c := range []struct {
		o    api.Options
		want api.Errno
	}{
		{api.Options{}, api.OK},
		{api.Options{Direction: 3}, api.OK}, {api.Options{Direction: 4}, api.ErrArg}, {api.Options{Direction: -1}, api.ErrArg},
		{api.Options{Direction: math.MinInt}, api.ErrArg}, {api.Options{Direction: math.MaxInt}, api.ErrArg}, {api.Options{Direction: 1 << 32}, api.ErrArg},
		{api.Options{LamAlef: 4, Letters: true}, api.OK}, {api.Options{LamAlef: 5, Letters: true}, api.ErrArg}, {api.Options{LamAlef: -1, Letters: true}, api.ErrArg},
		{api.Options{LamAlef: math.MinInt, Letters: true}, api.ErrArg}, {api.Options{LamAlef: math.MaxInt, Letters: true}, api.ErrArg},
		{api.Options{Tashkeel: 4, Letters: true}, api.OK}, {api.Options{Tashkeel: 5, Letters: true}, api.ErrArg}, {api.Options{Tashkeel: -1, Letters: true}, api.ErrArg},
		{api.Options{Tashkeel: math.MinInt, Letters: true}, api.ErrArg}, {api.Options{Tashkeel: math.MaxInt, Letters: true}, api.ErrArg},
		{api.Options{Digits: 4}, api.OK}, {api.Options{Digits: 5}, api.ErrArg}, {api.Options{Digits: -1}, api.ErrArg},
		{api.Options{Digits: math.MinInt}, api.ErrArg}, {api.Options{Digits: math.MaxInt}, api.ErrArg},

		{api.Options{LamAlef: 1}, api.ErrOption}, {api.Options{LamAlef: 2}, api.ErrOption}, {api.Options{Tashkeel: 1}, api.ErrOption},
		{api.Options{Pile: true}, api.ErrOption}, {api.Options{Seen: true}, api.ErrOption}, {api.Options{Yeh: true}, api.ErrOption},
		{api.Options{Letters: true, Pile: true, Seen: true, Yeh: true, Tashkeel: 1, LamAlef: 1}, api.OK},
		{api.Options{Digits: 1}, api.OK}, {api.Options{Eastern: true}, api.OK}, {api.Options{Mirror: true}, api.OK}, {api.Options{Strip: true}, api.OK},

		{api.Options{Through: true}, api.ErrOption}, {api.Options{Through: true, Letters: true}, api.ErrOption},
		{api.Options{Through: true, Letters: true, LamAlef: 1}, api.OK}, {api.Options{Through: true, LamAlef: 1}, api.ErrOption},

		{api.Options{Letters: true, Pile: true, Tashkeel: api.MarkKeep}, api.OK}, {api.Options{Letters: true, Pile: true, Tashkeel: api.MarkIsolated}, api.OK},
		{api.Options{Letters: true, Pile: true, Tashkeel: api.MarkMedial}, api.OK}, {api.Options{Letters: true, Pile: true, Tashkeel: api.MarkRemove}, api.ErrOption},
		{api.Options{Letters: true, Pile: true, Tashkeel: api.MarkTatweel}, api.ErrOption}, {api.Options{Letters: true, Tashkeel: api.MarkTatweel}, api.OK},

		{api.Options{Marks: true}, api.ErrOption}, {api.Options{Marks: true, Reorder: true}, api.OK}, {api.Options{Reorder: true}, api.OK},
		{api.Options{Marks: true, Letters: true, Mirror: true}, api.ErrOption},

		// Both may not be: the one that is named first is told.
		{api.Options{Direction: 4, Marks: true}, api.ErrArg}, {api.Options{LamAlef: 5}, api.ErrArg}, {api.Options{LamAlef: -1, Through: true}, api.ErrArg},
		{api.Options{Digits: 5, Seen: true}, api.ErrArg}, {api.Options{Tashkeel: 5, Pile: true}, api.ErrArg},
	} {
		if got := option.Check(c.o); got != c.want {
			t.Errorf("Check(%+v): %d, not %d", c.o, got, c.want)
		}
	}
}

// P10.1, P10.2: Check of all options, and of those beside them, against the words; Bits tells the same error and then no number.
func TestCheckEach(t *testing.T) {
	for direction := -1; direction <= 4; direction++ {
		for three := range 7 * 7 * 7 {
			for flags := range allFlags {
				o := of(direction, three%7-1, three/7%7-1, three/49-1, flags)
				want := asked(o)
				if got := option.Check(o); got != want {
					t.Fatalf("Check(%+v): %d, not %d", o, got, want)
				}
				if n, err := option.Bits(o); err != want || err != api.OK && n != 0 {
					t.Fatalf("Bits(%+v): %d, %d", o, n, err)
				}
			}
		}
	}
}

// P10.2: Bits, by hand: what each field counts.
func TestBits(t *testing.T) {
	for _, c := range []struct {
		o    api.Options
		want int
	}{
		{api.Options{}, 0}, {api.Options{Direction: 1}, 1}, {api.Options{Direction: 3}, 3}, {api.Options{Digits: 1}, 100}, {api.Options{Digits: 4}, 400},
		{api.Options{Direction: 1, Letters: true}, 1001}, {api.Options{LamAlef: 1, Letters: true}, 1004}, {api.Options{LamAlef: 4, Letters: true}, 1016},
		{api.Options{Tashkeel: 1, Letters: true}, 1020}, {api.Options{Tashkeel: 4, Letters: true}, 1080},
		{api.Options{Eastern: true}, 500}, {api.Options{Letters: true}, 1000}, {api.Options{Letters: true, LamAlef: 1, Through: true}, 3004},
		{api.Options{Letters: true, Pile: true}, 5000}, {api.Options{Letters: true, Seen: true}, 9000}, {api.Options{Letters: true, Yeh: true}, 17000},
		{api.Options{Reorder: true}, 32000}, {api.Options{Reorder: true, Marks: true}, 96000}, {api.Options{Mirror: true}, 128000}, {api.Options{Strip: true}, 256000},
		{of(3, 4, 2, 4, allFlags-1), 511959},
	} {
		if n, err := option.Bits(c.o); n != c.want || err != api.OK {
			t.Errorf("Bits(%+v): %d, %d, not %d", c.o, n, err, c.want)
		}
		if o, err := option.Of(c.want); o != c.o || err != api.OK {
			t.Errorf("Of(%d): %+v, %d", c.want, o, err)
		}
	}
}

// P10.2: numbers that are none, and such as are of options that do not go together.
func TestOfErrors(t *testing.T) {
	for n, want := range map[int]api.Errno{
		-1: api.ErrArg, -500: api.ErrArg, math.MinInt: api.ErrArg, allKinds * allFlags: api.ErrArg, allKinds*allFlags + 1: api.ErrArg,
		1<<32 | 1001: api.ErrArg, math.MaxInt: api.ErrArg,
		4: api.ErrOption, 20: api.ErrOption, 2000: api.ErrOption, 4000: api.ErrOption, 8000: api.ErrOption, 16000: api.ErrOption, 64000: api.ErrOption,
		3000: api.ErrOption, 5060: api.ErrOption, 5080: api.ErrOption, 499: api.ErrOption, allKinds*allFlags - 1: api.ErrOption,
	} {
		if o, err := option.Of(n); o != (api.Options{}) || err != want {
			t.Errorf("Of(%d): %+v, %d, not %d", n, o, err, want)
		}
	}
}

// P10.2, P10.3: Of every number, by the words: the options, or their error and no options; Bits of Of is the number.
func TestOfEach(t *testing.T) {
	for n := range allKinds * allFlags {
		want := of(n%4, n/4%5, n/20%5, n/100%5, n/500)
		err := asked(want)
		if err != api.OK {
			want = api.Options{}
		}
		o, got := option.Of(n)
		if o != want || got != err {
			t.Fatalf("Of(%d): %+v, %d", n, o, got)
		}
		if got != api.OK {
			continue
		}
		if bits, err := option.Bits(o); bits != n || err != api.OK {
			t.Fatalf("Bits of Of(%d): %d, %d", n, bits, err)
		}
	}
}

// P10.3: Of of Bits is the options, whatever they are, and no two have one number.
func TestOfBits(t *testing.T) {
	seen := map[int]bool{}
	for kinds := range allKinds {
		for flags := range allFlags {
			o := of(kinds/125, kinds/25%5, kinds/5%5, kinds%5, flags)
			n, err := option.Bits(o)
			if err != api.OK {
				continue
			}
			if seen[n] {
				t.Fatalf("%d is of two", n)
			}
			seen[n] = true
			if got, err := option.Of(n); !option.Same(got, o) || got != o || err != api.OK {
				t.Fatalf("Of(Bits(%+v)): %+v, %d", o, got, err)
			}
		}
	}
	if len(seen) == 0 {
		t.Error("no options go")
	}
}

// P10.2: Same, field by field, of options that may not be, too.
func TestSame(t *testing.T) {
	l := []api.Options{
		{}, {Direction: 1}, {LamAlef: 1}, {Tashkeel: 1}, {Digits: 1}, {Direction: 2}, {LamAlef: 4}, {Direction: 4}, {Direction: -1}, {LamAlef: 20}, {Digits: math.MinInt},
		{Eastern: true}, {Letters: true}, {Through: true}, {Pile: true}, {Seen: true}, {Yeh: true}, {Reorder: true}, {Marks: true}, {Mirror: true}, {Strip: true},
		of(3, 4, 4, 4, allFlags-1), of(3, 4, 4, 4, allFlags-2), of(3, 4, 4, 3, allFlags-1), of(2, 4, 4, 4, allFlags-1),
	}
	for i, a := range l {
		for j, b := range l {
			if got := option.Same(a, b); got != (i == j) {
				t.Errorf("Same(%+v, %+v): %v", a, b, got)
			}
		}
	}
}
