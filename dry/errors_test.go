package dry_test

import (
	"math"
	"slices"
	"testing"

	"foreshore/api"
	"foreshore/dry"
	"foreshore/tide"
)

// changed returns the yard of the example with a hire, after a change.
func changed(f func(y *dry.Yard)) dry.Yard {
	y := example(2, 3)
	f(&y)
	return y
}

type flawed struct {
	name string
	yard dry.Yard
	want api.Errno
}

// limited are yards at the limits and above them.
func limited() []flawed {
	return []flawed{
		{"valid", changed(func(y *dry.Yard) {}), api.OK},
		{"no chairs", changed(func(y *dry.Yard) { y.Chairs, y.Hires = nil, nil }), api.OK},
		{"most chairs", changed(func(y *dry.Yard) { y.Chairs = slices.Repeat(y.Chairs[:1], 5) }), api.OK},
		{"too many chairs", changed(func(y *dry.Yard) { y.Chairs = slices.Repeat(y.Chairs[:1], 6) }), api.ErrLimit},
		{"most hires", changed(func(y *dry.Yard) { y.Hires = slices.Repeat(y.Hires, 5) }), api.OK},
		{"too many hires", changed(func(y *dry.Yard) { y.Hires = slices.Repeat(y.Hires, 6) }), api.ErrLimit},
		{"too many chairs that are not valid", changed(func(y *dry.Yard) { y.Chairs = make([]dry.Chair, 6) }), api.ErrLimit},
		{"too many chairs, and no table", dry.Yard{Chairs: make([]dry.Chair, 6)}, api.ErrLimit},
		{"too many hires, and no table", dry.Yard{Hires: make([]dry.Hire, 6)}, api.ErrLimit},
		{"too many hires, and no list", changed(func(y *dry.Yard) { y.Hires, y.Table.Step = slices.Repeat(y.Hires, 6), 0 }), api.ErrLimit},
		{"too many hires, and Hands of -1", changed(func(y *dry.Yard) { y.Hires, y.Hands = slices.Repeat(y.Hires, 6), -1 }), api.ErrLimit},
	}
}

// ofTheTable are yards whose table has an error, which counts before others of the
// yard.
func ofTheTable() []flawed {
	false9 := []tide.Mark{mark(0, 0, 9, 9)}
	return []flawed{
		{"no yard", dry.Yard{}, api.ErrArg},
		{"too many hours", changed(func(y *dry.Yard) { y.Table.Last = 10 }), api.ErrLimit},
		{"too many rows", changed(func(y *dry.Yard) { y.Table.Levels = make([]int, 7) }), api.ErrLimit},
		{"most rows", changed(func(y *dry.Yard) { y.Table.Levels = make([]int, 6) }), api.OK},
		{"too many marks", changed(func(y *dry.Yard) { y.Table.Marks = make([]tide.Mark, 6) }), api.ErrLimit},
		{"more hours than heights", changed(func(y *dry.Yard) { y.Table.Last = 4 }), api.ErrArg},
		{"fewer hours than heights", changed(func(y *dry.Yard) { y.Table.Last = 2 }), api.ErrArg},
		{"heights turned", changed(func(y *dry.Yard) { y.Table.Heights[1] = tide.Range{Lo: 6, Hi: 5} }), api.ErrArg},
		{"a level of 100", changed(func(y *dry.Yard) { y.Table.Levels[2] = 100 }), api.ErrArg},
		{"a mark after the last hour", changed(func(y *dry.Yard) { y.Table.Marks = []tide.Mark{mark(0, 4, 9, 9)} }), api.ErrArg},
		{"too many lists", changed(func(y *dry.Yard) { y.Table.Heights[0], y.Table.Heights[1] = ranges(0, 99)[0], ranges(0, 99)[0] }), api.ErrLimit},
		{"no list", changed(func(y *dry.Yard) { y.Table.Step = 1 }), api.ErrFail},
		{"no truth", changed(func(y *dry.Yard) { y.Table.Marks = false9 }), api.ErrFalse},
		{"no list, and Hands of 6", changed(func(y *dry.Yard) { y.Table.Step, y.Hands = 1, 6 }), api.ErrFail},
		{"no truth, and Hands of -1", changed(func(y *dry.Yard) { y.Table.Marks, y.Hands = false9, -1 }), api.ErrFalse},
		{"no truth, and a chair that is not valid", changed(func(y *dry.Yard) { y.Table.Marks, y.Chairs[0].Rot = false9, 0 }), api.ErrFalse},
		{"too many lists, and an order that is not valid", changed(func(y *dry.Yard) {
			y.Table.Heights[0], y.Table.Heights[1], y.Order = ranges(0, 99)[0], ranges(0, 99)[0], list(3)
		}), api.ErrLimit},
		{"too many marks, and a hire that is not valid", changed(func(y *dry.Yard) { y.Table.Marks, y.Hires[0].Hour = make([]tide.Mark, 6), 4 }), api.ErrLimit},
	}
}

// invalid are yards that are not valid otherwise, and ones that are just so.
func invalid() []flawed {
	return []flawed{
		{"Hands of -1", changed(func(y *dry.Yard) { y.Hands = -1 }), api.ErrArg},
		{"Hands of 0", changed(func(y *dry.Yard) { y.Hands = 0 }), api.OK},
		{"Hands of 5", changed(func(y *dry.Yard) { y.Hands = 5 }), api.OK},
		{"Hands of 6", changed(func(y *dry.Yard) { y.Hands = 6 }), api.ErrArg},
		{"a Row of -1", changed(func(y *dry.Yard) { y.Chairs[0].Row = -1 }), api.ErrArg},
		{"a Row of 0", changed(func(y *dry.Yard) { y.Chairs[1].Row = 0 }), api.OK},
		{"a Row of 2", changed(func(y *dry.Yard) { y.Chairs[0].Row = 2 }), api.OK},
		{"a Row of 3", changed(func(y *dry.Yard) { y.Chairs[2].Row = 3 }), api.ErrArg},
		{"no rows, and chairs", changed(func(y *dry.Yard) { y.Table.Levels = nil }), api.ErrArg},
		{"no rows, and no chairs", changed(func(y *dry.Yard) { y.Table.Levels, y.Chairs, y.Hires = nil, nil, nil }), api.OK},
		{"Hours of -1", changed(func(y *dry.Yard) { y.Chairs[0].Hours = -1 }), api.ErrArg},
		{"Hours of 0", changed(func(y *dry.Yard) { y.Chairs[0].Hours = 0 }), api.OK},
		{"Hours of 5", changed(func(y *dry.Yard) { y.Chairs[2].Hours = 5 }), api.OK},
		{"Hours of 6", changed(func(y *dry.Yard) { y.Chairs[2].Hours = 6 }), api.ErrArg},
		{"a Rot of 0", changed(func(y *dry.Yard) { y.Chairs[0].Rot = 0 }), api.ErrArg},
		{"a Rot of -1", changed(func(y *dry.Yard) { y.Chairs[1].Rot = -1 }), api.ErrArg},
		{"a Rot of 1", changed(func(y *dry.Yard) { y.Chairs[0].Rot = 1 }), api.OK},
		{"a Rot of 9, above the hours", changed(func(y *dry.Yard) { y.Chairs[0].Rot = 9 }), api.OK},
		{"a Rot of 10", changed(func(y *dry.Yard) { y.Chairs[2].Rot = 10 }), api.ErrArg},
		{"an order of all chairs", changed(func(y *dry.Yard) { y.Order = list(0, 2, 1) }), api.OK},
		{"an order of some chairs", changed(func(y *dry.Yard) { y.Order = list(2, 0) }), api.OK},
		{"an order with the chair -1", changed(func(y *dry.Yard) { y.Order = list(0, -1) }), api.ErrArg},
		{"an order with the chair 3", changed(func(y *dry.Yard) { y.Order = list(0, 3) }), api.ErrArg},
		{"an order with a chair twice", changed(func(y *dry.Yard) { y.Order = list(0, 1, 0) }), api.ErrArg},
		{"an order with too many chairs", changed(func(y *dry.Yard) { y.Order = list(0, 1, 2, 0) }), api.ErrArg},
		{"an order of no chairs", changed(func(y *dry.Yard) { y.Chairs, y.Hires, y.Order = nil, nil, list(0) }), api.ErrArg},
		{"a hire of the chair -1", changed(func(y *dry.Yard) { y.Hires[0].Chair = -1 }), api.ErrArg},
		{"a hire of the chair 0", changed(func(y *dry.Yard) { y.Hires = hires(0, 0) }), api.OK},
		{"a hire of the chair 3", changed(func(y *dry.Yard) { y.Hires[0].Chair = 3 }), api.ErrArg},
		{"a hire of no chairs", changed(func(y *dry.Yard) { y.Chairs = nil }), api.ErrArg},
		{"a hire in the hour -1", changed(func(y *dry.Yard) { y.Hires[0].Hour = -1 }), api.ErrArg},
		{"a hire in the hour 4", changed(func(y *dry.Yard) { y.Hires[0].Hour = 4 }), api.ErrArg},
		{"the last hire", changed(func(y *dry.Yard) { y.Hires = hires(0, 0, 1, 4) }), api.ErrArg},
		{"wrong hires, and Hands of 6", changed(func(y *dry.Yard) { y.Hires, y.Hands = hires(0, 3), 6 }), api.ErrArg},
	}
}

// asked is what is asked about a yard.
type asked struct {
	order, heights []int
	chair, hour    int
}

// call is a call with what it has together with an error.
type call struct {
	name string
	do   func(y dry.Yard, a asked) (zero bool, e api.Errno)
}

var (
	playing = call{"Play", func(y dry.Yard, a asked) (bool, api.Errno) {
		l, e := dry.Play(y, a.order, a.heights)
		return l == nil, e
	}}
	hiring = call{"Free", func(y dry.Yard, a asked) (bool, api.Errno) {
		n, e := dry.Free(y, a.order, a.chair, a.hour)
		return n == 0, e
	}}
	counting = call{"Hours", func(y dry.Yard, a asked) (bool, api.Errno) {
		r, e := dry.Hours(y, a.order, a.chair)
		return r == dry.Range{}, e
	}}
	losing = call{"Lost", func(y dry.Yard, a asked) (bool, api.Errno) {
		n, l, e := dry.Lost(y, a.order)
		return n == 0 && l == nil, e
	}}
	choosing = call{"Best", func(y dry.Yard, a asked) (bool, api.Errno) {
		l, n, e := dry.Best(y)
		return l == nil && n == 0, e
	}}
	finding = call{"First", func(y dry.Yard, a asked) (bool, api.Errno) {
		n, e := dry.First(y)
		return n == 0, e
	}}
	leaving = call{"Leave", func(y dry.Yard, a asked) (bool, api.Errno) {
		l, e := dry.Leave(y)
		return l == nil, e
	}}
)

func calls() []call {
	return []call{playing, hiring, counting, losing, choosing, finding, leaving}
}

// expect does the call, and wants the error, and with it nothing else.
func expect(t *testing.T, c call, y dry.Yard, a asked, want api.Errno) {
	t.Helper()
	zero, e := c.do(y, a)
	if e != want {
		t.Errorf("%s of %v, %v: %v, not %v", c.name, y, a, e, want)
	}
	if e != api.OK && !zero {
		t.Errorf("%s of %v, %v: a result with %v", c.name, y, a, e)
	}
}

// P8.1, and the row "all" of the errors: each call has the error of the yard, before
// any other one; the proofs are false.
func TestErrorsOfTheYard(t *testing.T) {
	for _, x := range slices.Concat(limited(), ofTheTable(), invalid()) {
		t.Run(x.name, func(t *testing.T) {
			if e := dry.CheckYard(x.yard); e != x.want {
				t.Errorf("CheckYard of %v: %v, not %v", x.yard, e, x.want)
			}
			if x.want == api.OK {
				expect(t, playing, x.yard, asked{heights: list(3, 6, 8, 4)}, api.OK)
				expect(t, leaving, x.yard, asked{}, api.OK)
				return
			}
			for _, a := range []asked{{}, {heights: list(3, 6, 8, 4)}, {order: list(3, 3), heights: list(3), chair: 77, hour: -1}} {
				for _, c := range calls() {
					expect(t, c, x.yard, a, x.want)
				}
				if dry.ProveTruth(x.yard, a.heights) || dry.ProveOrder(x.yard, a.order, 99) {
					t.Errorf("proved: %v, %v", x.yard, a)
				}
			}
		})
	}
}

// noOrders are lists that are no orders of three chairs.
func noOrders() [][]int {
	return [][]int{list(3), list(-1), list(0, 3), list(0, 0), list(1, 2, 1), list(0, 1, 2, 2), list(0, 1, 2, 3), list(math.MaxInt), list(math.MinInt), list(0, 1<<32), make([]int, 99)}
}

// Play has ErrRange for lists that are no orders, or not of the table.
func TestErrorsOfPlay(t *testing.T) {
	falsely := example(0, 3)
	for _, y := range []dry.Yard{example(), falsely, changed(func(y *dry.Yard) { y.Table.Marks = []tide.Mark{mark(1, 1, 5, 5)} })} {
		for _, order := range noOrders() {
			expect(t, playing, y, asked{order: order, heights: list(3, 6, 8, 4)}, api.ErrRange)
			expect(t, playing, y, asked{order: order}, api.ErrRange)
		}
		for _, heights := range [][]int{nil, {}, list(3, 6, 8), list(3, 6, 8, 4, 4), list(1, 5, 8, 4), list(5, 6, 8, 4), list(3, 6, 9, 4), list(2, 6, 10, 6), list(3, 6, 8, 1<<32+4), list(math.MinInt, 6, 8, 4), list(3, 6, math.MaxInt, 4), make([]int, 99)} {
			expect(t, playing, y, asked{order: list(1), heights: heights}, api.ErrRange)
			if dry.ProveTruth(y, heights) {
				t.Errorf("proved: %v, %v", y, heights)
			}
		}
		// It asks neither about marks nor about hires.
		expect(t, playing, y, asked{order: list(0, 1, 2), heights: list(3, 6, 8, 4)}, api.OK)
	}
}

// Free, Hours and Lost have ErrRange for what is not there, and only then ErrFalse.
func TestErrorsOfWhatIsNotThere(t *testing.T) {
	for _, y := range []dry.Yard{example(), example(0, 3)} {
		other := api.OK
		if len(y.Hires) > 0 {
			other = api.ErrFalse
		}
		for _, order := range noOrders() {
			for _, c := range []call{hiring, counting, losing} {
				expect(t, c, y, asked{order: order}, api.ErrRange)
			}
			if dry.ProveOrder(y, order, 99) {
				t.Errorf("proved: %v, %v", y, order)
			}
		}
		for _, chair := range []int{-1, 3, 4, math.MinInt, math.MaxInt} {
			expect(t, hiring, y, asked{chair: chair}, api.ErrRange)
			expect(t, counting, y, asked{chair: chair}, api.ErrRange)
		}
		for _, hour := range []int{-1, 4, 9, 10, math.MinInt, math.MaxInt} {
			expect(t, hiring, y, asked{hour: hour}, api.ErrRange)
			expect(t, counting, y, asked{hour: hour}, other)
		}
		for _, order := range [][]int{nil, {}, list(2), list(2, 0, 1)} {
			a := asked{order: order, chair: 2, hour: 3}
			for _, c := range []call{hiring, counting, losing, choosing} {
				expect(t, c, y, a, other)
			}
			if dry.ProveOrder(y, order, math.MaxInt) != (other == api.OK) || dry.ProveOrder(y, order, math.MinInt) || dry.ProveOrder(y, order, -1) {
				t.Errorf("ProveOrder of %v, %v", y, order)
			}
		}
	}
	none := changed(func(y *dry.Yard) { y.Chairs, y.Hires = nil, nil })
	expect(t, hiring, none, asked{}, api.ErrRange)
	expect(t, counting, none, asked{}, api.ErrRange)
	expect(t, losing, none, asked{order: list(0)}, api.ErrRange)
	expect(t, losing, none, asked{}, api.OK)
}

// Yards without a truth, and without a wrong hire.
func TestNoTruthOfTheYard(t *testing.T) {
	for _, x := range []struct {
		y             dry.Yard
		truths, first api.Errno
	}{
		{example(), api.OK, api.ErrNone},
		{example(0, 1), api.OK, api.ErrNone},
		{example(0, 2), api.ErrFalse, api.OK},
		{example(0, 1, 1, 1), api.ErrFalse, api.OK},
	} {
		for _, c := range []call{hiring, counting, losing, choosing} {
			expect(t, c, x.y, asked{}, x.truths)
		}
		expect(t, finding, x.y, asked{}, x.first)
		expect(t, leaving, x.y, asked{}, api.OK)
		expect(t, playing, x.y, asked{heights: list(3, 5, 8, 4)}, api.OK)
	}
}

// callAll does all calls of a yard.
func callAll(y dry.Yard, a asked, many int) {
	dry.CheckYard(y)
	for _, c := range calls() {
		c.do(y, a)
	}
	dry.ProveTruth(y, a.heights)
	dry.ProveOrder(y, a.order, many)
}

// P1: no call panics, whatever the arguments are.
func TestNothingPanics(t *testing.T) {
	odd := []int{math.MinInt, -1 << 32, -1, 0, 1, 2, 3, 5, 6, 9, 10, 64, 1 << 32, math.MaxInt}
	for _, m := range odd {
		for _, n := range odd {
			for _, change := range []func(y *dry.Yard){
				func(y *dry.Yard) {},
				func(y *dry.Yard) { *y = dry.Yard{} },
				func(y *dry.Yard) { y.Chairs = make([]dry.Chair, 99) },
				func(y *dry.Yard) { y.Hires = make([]dry.Hire, 99) },
				func(y *dry.Yard) { y.Table.Last, y.Hands = m, n },
				func(y *dry.Yard) { y.Table.Heights[1], y.Table.Step = tide.Range{Lo: m, Hi: n}, n },
				func(y *dry.Yard) { y.Table.Marks = []tide.Mark{mark(m, n, 0, 99)} },
				func(y *dry.Yard) { y.Hands, y.Order = m, list(n) },
				func(y *dry.Yard) { y.Chairs[0] = dry.Chair{Row: 0, Hours: m, Rot: n} },
				func(y *dry.Yard) { y.Chairs[1].Row, y.Order = m, list(0, n) },
				func(y *dry.Yard) { y.Hires = hires(m, n) },
			} {
				y := changed(change)
				callAll(y, asked{list(m, n), list(3, 6, m, n), m, n}, m)
				callAll(y, asked{list(0, 1, 2), list(m), 1, m}, n)
				callAll(y, asked{nil, list(3, 6, 8, 4), m, 1}, n)
			}
		}
	}
}
