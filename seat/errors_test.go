package seat_test

import (
	"math"
	"slices"
	"testing"

	"foreshore/api"
	"foreshore/seat"
	"foreshore/wind"
)

// changed returns the case of the example with two families, after a change.
func changed(f func(c *seat.Case)) seat.Case {
	c := example(family(2, 0, "d"), family(1, 1, ""))
	f(&c)
	return c
}

type flawed struct {
	name string
	c    seat.Case
	want api.Errno
}

// flawedBeaches are cases whose beach, or plan, has an error, and ones that are
// just so.
func flawedBeaches() []flawed {
	return []flawed{
		{"valid", changed(func(c *seat.Case) {}), api.OK},
		{"all limits", largest(), api.OK},
		{"no case", seat.Case{}, api.ErrArg},
		{"too many families", changed(func(c *seat.Case) { c.Families = slices.Repeat(c.Families, 2) }), api.ErrLimit},
		{"most families", changed(func(c *seat.Case) { c.Families = append(c.Families, family(4, 5, "ds")) }), api.OK},
		{"no families", changed(func(c *seat.Case) { c.Families = nil }), api.OK},
		{"Last too great", changed(func(c *seat.Case) { c.Beach.Last = 5 }), api.ErrLimit},
		{"too many rows", changed(func(c *seat.Case) { c.Beach.Rows = 4 }), api.ErrLimit},
		{"too many places", changed(func(c *seat.Case) { c.Beach.Places = 6 }), api.ErrLimit},
		{"too many breaks", changed(func(c *seat.Case) { c.Beach.Breaks = make([]wind.Spot, 5) }), api.ErrLimit},
		{"most breaks", changed(func(c *seat.Case) { c.Beach.Breaks = make([]wind.Spot, 4) }), api.OK},
		{"too many notes", changed(func(c *seat.Case) { c.Beach.Notes = make([]wind.Note, 6) }), api.ErrLimit},
		{"no rows", changed(func(c *seat.Case) { c.Beach.Rows, c.Beach.Face, c.Chairs = 0, nil, nil }), api.ErrArg},
		{"a Reach of 5", changed(func(c *seat.Case) { c.Beach.Reach = 5 }), api.ErrArg},
		{"no winds in an hour", changed(func(c *seat.Case) { c.Beach.Winds[1] = nil }), api.ErrArg},
		{"a break off the beach", changed(func(c *seat.Case) { c.Beach.Breaks[0] = spot(2, 0) }), api.ErrArg},
		{"no plan", changed(func(c *seat.Case) { c.Plan = nil }), api.ErrRange},
		{"a plan of fewer hours", changed(func(c *seat.Case) { c.Plan = c.Plan[:1] }), api.ErrRange},
		{"a plan of fewer rows", changed(func(c *seat.Case) { c.Plan[1] = []int{3} }), api.ErrRange},
		{"a plan with 4", changed(func(c *seat.Case) { c.Plan[1][1] = 4 }), api.ErrRange},
		{"a note that cannot be right", changed(func(c *seat.Case) { c.Beach.Notes = []wind.Note{note(0, 0)} }), api.ErrFalse},
		{"two notes of one hour", changed(func(c *seat.Case) { c.Beach.Notes = []wind.Note{note(1, 0), note(1, 3)} }), api.ErrFalse},
		{"a note that can be right", changed(func(c *seat.Case) { c.Beach.Notes = []wind.Note{note(1, 0)} }), api.OK},
	}
}

// invalid are cases that are not valid otherwise, and ones that are just so.
func invalid() []flawed {
	return []flawed{
		{"no chairs", changed(func(c *seat.Case) { c.Chairs = nil }), api.ErrArg},
		{"chairs of fewer rows", changed(func(c *seat.Case) { c.Chairs = c.Chairs[:1] }), api.ErrArg},
		{"chairs of more rows", changed(func(c *seat.Case) { c.Chairs = append(c.Chairs, c.Chairs[0]) }), api.ErrArg},
		{"chairs of fewer places", changed(func(c *seat.Case) { c.Chairs[0] = c.Chairs[0][:2] }), api.ErrArg},
		{"chairs of fewer places in the last row", changed(func(c *seat.Case) { c.Chairs[1] = nil }), api.ErrArg},
		{"chairs of more places", changed(func(c *seat.Case) { c.Chairs[1] = make([]bool, 4) }), api.ErrArg},
		{"no chair at any place", changed(func(c *seat.Case) { c.Chairs = [][]bool{make([]bool, 3), make([]bool, 3)} }), api.OK},
		{"a family of nobody", changed(func(c *seat.Case) { c.Families[1].Size = 0 }), api.ErrArg},
		{"a family of -1", changed(func(c *seat.Case) { c.Families[0].Size = -1 }), api.ErrArg},
		{"a family of five", changed(func(c *seat.Case) { c.Families[0].Size = 5 }), api.ErrArg},
		{"a family of four", changed(func(c *seat.Case) { c.Families[0].Size = 4 }), api.OK},
		{"Good -1", changed(func(c *seat.Case) { c.Families[1].Good = -1 }), api.ErrArg},
		{"Good 6", changed(func(c *seat.Case) { c.Families[1].Good = 6 }), api.ErrArg},
		{"Good 5", changed(func(c *seat.Case) { c.Families[1].Good = 5 }), api.OK},
		{"Good 0", changed(func(c *seat.Case) { c.Families[1].Good = 0 }), api.OK},
		{"the last one of the families", changed(func(c *seat.Case) { c.Families = append(c.Families, seat.Family{}) }), api.ErrArg},
	}
}

// ordered are cases with several errors, of which the first one counts.
func ordered() []flawed {
	return []flawed{
		{"too many families, and no beach", seat.Case{Families: make([]seat.Family, 4)}, api.ErrLimit},
		{"too many families, and no plan", changed(func(c *seat.Case) { c.Families, c.Plan = make([]seat.Family, 4), nil }), api.ErrLimit},
		{"too many families, and no truth", changed(func(c *seat.Case) { c.Families, c.Beach.Notes = make([]seat.Family, 4), []wind.Note{note(0, 0)} }), api.ErrLimit},
		{"too many families, and no chairs", changed(func(c *seat.Case) { c.Families, c.Chairs = make([]seat.Family, 4), nil }), api.ErrLimit},
		{"no beach, and no plan", changed(func(c *seat.Case) { c.Beach.Reach, c.Plan = -1, nil }), api.ErrArg},
		{"Last too great, and no chairs", changed(func(c *seat.Case) { c.Beach.Last, c.Chairs = 5, nil }), api.ErrLimit},
		{"no plan, and no chairs", changed(func(c *seat.Case) { c.Plan, c.Chairs = nil, nil }), api.ErrRange},
		{"no plan, and no truth", changed(func(c *seat.Case) { c.Plan, c.Beach.Notes = nil, []wind.Note{note(0, 0)} }), api.ErrRange},
		{"no plan, and a family of nobody", changed(func(c *seat.Case) { c.Plan, c.Families[0].Size = nil, 0 }), api.ErrRange},
		{"no truth, and no chairs", changed(func(c *seat.Case) { c.Beach.Notes, c.Chairs = []wind.Note{note(0, 0)}, nil }), api.ErrFalse},
		{"no truth, and Good 6", changed(func(c *seat.Case) { c.Beach.Notes, c.Families[0].Good = []wind.Note{note(0, 0)}, 6 }), api.ErrFalse},
	}
}

// asked is what a call is asked about.
type asked struct {
	seats []wind.Spot
	truth []int
}

// call is a call with what it has together with an error.
type call struct {
	name string
	do   func(c seat.Case, a asked) (zero bool, e api.Errno)
}

var (
	playing = call{"Play", func(c seat.Case, a asked) (bool, api.Errno) {
		l, e := seat.Play(c, a.seats, a.truth)
		return l == nil, e
	}}
	bounding = call{"Bounds", func(c seat.Case, a asked) (bool, api.Errno) {
		l, e := seat.Bounds(c, a.seats)
		return l == nil, e
	}}
	judging = call{"Content", func(c seat.Case, a asked) (bool, api.Errno) {
		l, e := seat.Content(c, a.seats)
		return l == nil, e
	}}
	besting = call{"Best", func(c seat.Case, a asked) (bool, api.Errno) {
		l, sun, carried, e := seat.Best(c)
		return l == nil && sun == 0 && carried == 0, e
	}}
	leaving = call{"Leave", func(c seat.Case, a asked) (bool, api.Errno) {
		l, e := seat.Leave(c)
		return l == nil, e
	}}
	parting = call{"Part", func(c seat.Case, a asked) (bool, api.Errno) {
		l, e := seat.Part(c)
		return l == nil, e
	}}
	breaking = call{"Break", func(c seat.Case, a asked) (bool, api.Errno) {
		p, n, e := seat.Break(c)
		return p == wind.Spot{} && n == 0, e
	}}
)

func calls() []call {
	return []call{playing, bounding, judging, besting, leaving, parting, breaking}
}

// seated are the calls that have a seating.
func seated() []call { return []call{playing, bounding, judging} }

// expect does the call, and wants the error, and with it nothing else.
func expect(t *testing.T, k call, c seat.Case, a asked, want api.Errno) {
	t.Helper()
	zero, e := k.do(c, a)
	if e != want {
		t.Errorf("%s of %v, %v: %v, not %v", k.name, c, a, e, want)
	}
	if e != api.OK && !zero {
		t.Errorf("%s of %v, %v: a result with %v", k.name, c, a, e)
	}
}

// sitting asks about the case of the example.
func sitting() asked { return asked{[]wind.Spot{spot(1, 0), spot(0, 1)}, []int{3, 0}} }

// P5.1, and the row "all" of the errors: each call has the error of the case,
// before any other one; the proof is false.
func TestErrorsOfTheCase(t *testing.T) {
	for _, x := range slices.Concat(flawedBeaches(), invalid(), ordered()) {
		t.Run(x.name, func(t *testing.T) {
			if e := seat.CheckCase(x.c); e != x.want {
				t.Errorf("CheckCase of %v: %v, not %v", x.c, e, x.want)
			}
			if x.want == api.OK {
				return
			}
			for _, a := range []asked{sitting(), {}, {seats: []wind.Spot{spot(-1, 9)}, truth: []int{9}}} {
				for _, k := range calls() {
					expect(t, k, x.c, a, x.want)
				}
				if seat.ProveSeats(x.c, a.seats, 0, 99) {
					t.Errorf("proved: %v, %v", x.c, a)
				}
			}
		})
	}
}

// The errors of the case come before those of Break.
func TestErrorsOfAFullBeach(t *testing.T) {
	for _, x := range slices.Concat(invalid(), ordered()) {
		c := copied(x.c)
		c.Beach.Breaks = make([]wind.Spot, api.MaxWindBreaks)
		want := x.want
		if want == api.OK {
			want = api.ErrFail
		}
		expect(t, breaking, c, asked{}, want)
	}
}

// Lists that are no seatings: their length, and their places.
func TestNoSeating(t *testing.T) {
	least, most := math.MinInt, math.MaxInt
	for _, l := range [][]wind.Spot{
		nil, {}, {spot(1, 0)}, {spot(1, 0), spot(0, 1), spot(0, 0)},
		{spot(1, 0), spot(1, 0)}, {spot(1, 0), spot(1, 1)}, {spot(1, 1), spot(1, 2)},
		{spot(1, 2), spot(0, 1)}, {spot(1, 3), spot(0, 1)}, {spot(1, -1), spot(0, 1)}, {spot(2, 0), spot(0, 1)}, {spot(-1, 0), spot(0, 1)},
		{spot(1, 0), spot(0, 3)}, {spot(1, 0), spot(0, -1)}, {spot(1, 0), spot(2, 1)}, {spot(1, 0), spot(-1, 1)},
		{spot(1, least), spot(0, 1)}, {spot(1, most), spot(0, 1)}, {spot(least, 0), spot(0, 1)}, {spot(most, 0), spot(0, 1)}, {spot(1, most-1), spot(1, most)},
	} {
		for _, k := range seated() {
			expect(t, k, changed(func(c *seat.Case) {}), asked{l, []int{3, 0}}, api.ErrRange)
		}
		if seat.ProveSeats(changed(func(c *seat.Case) {}), l, least, most) {
			t.Errorf("proved: %v", l)
		}
	}
	for _, l := range [][]wind.Spot{{spot(1, 0), spot(0, 1)}, {spot(1, 0), spot(1, 2)}, {spot(1, 1), spot(1, 0)}, {spot(0, 1), spot(0, 0)}} {
		for _, k := range seated() {
			expect(t, k, changed(func(c *seat.Case) {}), asked{l, []int{3, 0}}, api.OK)
		}
	}
}

// Lists that are no truths: their length, and their winds.
func TestNoTruth(t *testing.T) {
	for _, c := range []seat.Case{example(), changed(func(c *seat.Case) {}), changed(func(c *seat.Case) { c.Beach.Notes = []wind.Note{note(1, 3)} })} {
		seats := sitting().seats[:len(c.Families)]
		for _, l := range [][]int{nil, {}, {3}, {3, 0, 0}, {0, 0}, {3, 1}, {3, -1}, {-1, 0}, {3, 4}, {3, math.MaxInt}, {math.MinInt, 0}, make([]int, 5)} {
			expect(t, playing, c, asked{seats, l}, api.ErrRange)
		}
		// Play does not ask about notes.
		for _, l := range [][]int{{3, 0}, {3, 3}} {
			expect(t, playing, c, asked{seats, l}, api.OK)
		}
	}
}

// The errors of Best, Part and Break.
func TestNoAllowedSeating(t *testing.T) {
	none := example(family(3, 1, ""))
	full := func(c seat.Case) seat.Case {
		c.Beach.Breaks = slices.Repeat([]wind.Spot{spot(0, 0)}, api.MaxWindBreaks)
		return c
	}
	for _, x := range []struct {
		c                   seat.Case
		best, part, another api.Errno
	}{
		{example(), api.OK, api.ErrNone, api.OK},
		{example(family(1, 1, "")), api.OK, api.ErrNone, api.OK},
		{none, api.ErrShort, api.OK, api.ErrShort},
		{example(family(2, 1, "")), api.ErrShort, api.OK, api.OK},
		{full(none), api.ErrShort, api.OK, api.ErrFail},
		{full(example()), api.OK, api.ErrNone, api.ErrFail},
		{full(example(family(1, 1, ""))), api.OK, api.ErrNone, api.ErrFail},
	} {
		expect(t, besting, x.c, asked{}, x.best)
		expect(t, parting, x.c, asked{}, x.part)
		expect(t, breaking, x.c, asked{}, x.another)
		expect(t, leaving, x.c, asked{}, api.OK)
	}
}

// callAll does all calls of a case.
func callAll(c seat.Case, a asked, sun, carried int) {
	seat.CheckCase(c)
	for _, k := range calls() {
		k.do(c, a)
	}
	seat.ProveSeats(c, a.seats, sun, carried)
}

// P1: no call panics, whatever the arguments are.
func TestNothingPanics(t *testing.T) {
	odd := []int{math.MinInt, -1 << 32, -1, 0, 1, 2, 3, 4, 5, 99, 1 << 32, math.MaxInt}
	for _, m := range odd {
		for _, n := range odd {
			for _, change := range []func(c *seat.Case){
				func(c *seat.Case) {},
				func(c *seat.Case) { c.Beach.Last, c.Beach.Rows = m, n },
				func(c *seat.Case) { c.Beach.Places, c.Beach.Reach = m, n },
				func(c *seat.Case) { c.Beach.Winds = [][]int{{m}, {m, n}} },
				func(c *seat.Case) { c.Beach.Breaks = []wind.Spot{spot(m, n)} },
				func(c *seat.Case) { c.Beach.Notes = []wind.Note{note(m, n)} },
				func(c *seat.Case) { c.Plan = [][]int{{m, n}, {n, m}} },
				func(c *seat.Case) { c.Chairs = [][]bool{nil, make([]bool, 9)} },
				func(c *seat.Case) { c.Families[0] = family(m, n, "s") },
				func(c *seat.Case) { c.Families = slices.Repeat([]seat.Family{family(m, 0, "ds")}, 3) },
			} {
				c := changed(change)
				callAll(c, asked{[]wind.Spot{spot(m, n), spot(n, m)}, []int{m, n}}, m, n)
				callAll(c, asked{[]wind.Spot{spot(1, n), spot(m, 0)}, []int{3, 0}}, n, m)
				callAll(c, asked{[]wind.Spot{spot(1, 0), spot(0, 1)}, nil}, 0, m)
				callAll(c, asked{}, n, 0)
			}
		}
	}
}
