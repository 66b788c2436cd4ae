package tide_test

import (
	"math"
	"slices"
	"testing"

	"foreshore/api"
	"foreshore/tide"
)

// changed returns the table of the example with a mark, after a change.
func changed(f func(x *tide.Table)) tide.Table {
	x := example(mark(1, 3, 9, 9))
	f(&x)
	return x
}

// long returns a table of all hours, each with the range.
func long(r tide.Range) tide.Table {
	x := tide.Table{Last: api.MaxTideLast, Step: api.MaxTideHeight}
	for range x.Last + 1 {
		x.Heights = append(x.Heights, r)
	}
	return x
}

type flawed struct {
	name  string
	table tide.Table
	want  api.Errno
}

// limited are tables at the limits and above them.
func limited() []flawed {
	return []flawed{
		{"valid", changed(func(x *tide.Table) {}), api.OK},
		{"greatest Last", long(to(0, 0)), api.OK},
		{"Last too great", changed(func(x *tide.Table) { x.Last = 10 }), api.ErrLimit},
		{"Last too great, with heights", changed(func(x *tide.Table) { x.Last, x.Heights = 10, make([]tide.Range, 11) }), api.ErrLimit},
		{"most rows", changed(func(x *tide.Table) { x.Levels = make([]int, 6) }), api.OK},
		{"too many rows", changed(func(x *tide.Table) { x.Levels = make([]int, 7) }), api.ErrLimit},
		{"no rows", changed(func(x *tide.Table) { x.Levels = nil }), api.OK},
		{"most marks", changed(func(x *tide.Table) { x.Marks = make([]tide.Mark, 5) }), api.OK},
		{"too many marks", changed(func(x *tide.Table) { x.Marks = make([]tide.Mark, 6) }), api.ErrLimit},
		{"most lists", changed(func(x *tide.Table) { x.Heights = ranges(0, 99, 0, 9, 0, 1, 0, 0) }), api.OK},
		{"most lists, of which most are not of the table", changed(func(x *tide.Table) { x.Heights, x.Step = ranges(0, 99, 0, 9, 0, 1, 0, 0), 0 }), api.OK},
		{"too many lists", changed(func(x *tide.Table) { x.Heights, x.Step = ranges(0, 28, 0, 22, 0, 2, 0, 0), 99 }), api.ErrLimit},
		{"too many lists in the last hour", changed(func(x *tide.Table) { x.Heights, x.Step = ranges(0, 99, 0, 9, 0, 1, 0, 1), 99 }), api.ErrLimit},
		{"99 to the 10th lists: below 0, if it is too great for an int", long(to(0, 98)), api.ErrLimit},
		{"100 to the 10th lists", long(to(0, 99)), api.ErrLimit},
		{"64 to the 10th lists", long(to(0, 63)), api.ErrLimit},
	}
}

// invalid are tables that are not valid otherwise, and ones that are just so.
func invalid() []flawed {
	return []flawed{
		{"no table", tide.Table{}, api.ErrArg},
		{"least table", tide.Table{Heights: ranges(0, 0)}, api.OK},
		{"Last -1", changed(func(x *tide.Table) { x.Last = -1 }), api.ErrArg},
		{"Last -1 and no heights", changed(func(x *tide.Table) { x.Last, x.Heights, x.Marks = -1, nil, nil }), api.ErrArg},
		{"more heights", changed(func(x *tide.Table) { x.Heights = append(x.Heights, to(4, 5)) }), api.ErrArg},
		{"fewer heights", changed(func(x *tide.Table) { x.Heights = x.Heights[:3] }), api.ErrArg},
		{"height -1", changed(func(x *tide.Table) { x.Heights[3] = to(-1, 5) }), api.ErrArg},
		{"height 100", changed(func(x *tide.Table) { x.Heights[3] = to(4, 100) }), api.ErrArg},
		{"heights turned", changed(func(x *tide.Table) { x.Heights[3] = to(5, 4) }), api.ErrArg},
		{"height 99", changed(func(x *tide.Table) { x.Heights[3], x.Step = to(99, 99), 99 }), api.OK},
		{"step -1", changed(func(x *tide.Table) { x.Step = -1 }), api.ErrArg},
		{"step 100", changed(func(x *tide.Table) { x.Step = 100 }), api.ErrArg},
		{"step 99", changed(func(x *tide.Table) { x.Step = 99 }), api.OK},
		{"level -1", changed(func(x *tide.Table) { x.Levels[2] = -1 }), api.ErrArg},
		{"level 100", changed(func(x *tide.Table) { x.Levels[2] = 100 }), api.ErrArg},
		{"levels 0 and 99", changed(func(x *tide.Table) { x.Levels[0], x.Levels[2] = 0, 99 }), api.OK},
		{"mark from -1", changed(func(x *tide.Table) { x.Marks[0].From = -1 }), api.ErrArg},
		{"mark to none", changed(func(x *tide.Table) { x.Marks[0].To = 4 }), api.ErrArg},
		{"mark turned", changed(func(x *tide.Table) { x.Marks[0].To = 0 }), api.ErrArg},
		{"mark of no hour", changed(func(x *tide.Table) { x.Marks[0].From, x.Marks[0].To = 4, 4 }), api.ErrArg},
		{"mark of one hour", changed(func(x *tide.Table) { x.Marks[0].To = 1 }), api.OK},
		{"mark of all hours", changed(func(x *tide.Table) { x.Marks[0].From = 0 }), api.OK},
		{"mark of -1", changed(func(x *tide.Table) { x.Marks[0].Highest = to(-1, 5) }), api.ErrArg},
		{"mark of 100", changed(func(x *tide.Table) { x.Marks[0].Highest = to(5, 100) }), api.ErrArg},
		{"mark of a range turned", changed(func(x *tide.Table) { x.Marks[0].Highest = to(2, 1) }), api.ErrArg},
		{"mark of any height", changed(func(x *tide.Table) { x.Marks[0].Highest = to(0, 99) }), api.OK},
		{"no list of the table", changed(func(x *tide.Table) { x.Step = 2 }), api.ErrFail},
		{"just a list of the table", changed(func(x *tide.Table) { x.Step = 3 }), api.OK},
		{"no list: the step down", tide.Table{Last: 1, Heights: ranges(9, 9, 0, 4), Step: 4}, api.ErrFail},
		{"no list: steps that do not meet", tide.Table{Last: 2, Heights: ranges(0, 0, 0, 9, 9, 9), Step: 4}, api.ErrFail},
		{"no list: the step 0", tide.Table{Last: 1, Heights: ranges(1, 1, 2, 2)}, api.ErrFail},
	}
}

// ordered are tables with several errors, of which the first one counts.
func ordered() []flawed {
	return []flawed{
		{"Last too great, and all else", tide.Table{Last: 10, Heights: ranges(1, 0), Step: -1, Levels: []int{-1}}, api.ErrLimit},
		{"too many rows, and Last -1", tide.Table{Last: -1, Levels: make([]int, 7)}, api.ErrLimit},
		{"too many marks that are not valid", changed(func(x *tide.Table) { x.Marks = slices.Repeat([]tide.Mark{mark(3, 1, 9, 100)}, 6) }), api.ErrLimit},
		{"too many lists, and a step of -1", changed(func(x *tide.Table) { x.Heights, x.Step = ranges(0, 99, 0, 99, 0, 0, 0, 0), -1 }), api.ErrArg},
		{"too many lists, and a mark that is not valid", changed(func(x *tide.Table) { x.Heights, x.Marks[0].To = ranges(0, 99, 0, 99, 0, 0, 0, 0), 4 }), api.ErrArg},
		{"too many lists, of which none keeps the step", changed(func(x *tide.Table) { x.Heights = ranges(0, 44, 0, 44, 0, 0, 99, 99) }), api.ErrLimit},
		{"no list of the table, and a level of 100", changed(func(x *tide.Table) { x.Step, x.Levels[0] = 2, 100 }), api.ErrArg},
		{"no list of the table, and marks that cannot be right", changed(func(x *tide.Table) { x.Step, x.Marks[0].Highest = 2, to(99, 99) }), api.ErrFail},
		{"marks that cannot be right", changed(func(x *tide.Table) { x.Marks[0].Highest = to(99, 99) }), api.OK},
	}
}

// call is a call with what it has together with an error.
type call struct {
	name string
	do   func(x tide.Table, heights []int, row, from, to int) (zero bool, e api.Errno)
}

var (
	playing = call{"Play", func(x tide.Table, heights []int, row, from, to int) (bool, api.Errno) {
		l, e := tide.Play(x, heights)
		return l == nil, e
	}}
	bounding = call{"Bounds", func(x tide.Table, heights []int, row, from, to int) (bool, api.Errno) {
		l, e := tide.Bounds(x)
		return l == nil, e
	}}
	wetting = call{"Wet", func(x tide.Table, heights []int, row, from, to int) (bool, api.Errno) {
		n, e := tide.Wet(x, row, to)
		return n == 0, e
	}}
	reaching = call{"Reach", func(x tide.Table, heights []int, row, from, to int) (bool, api.Errno) {
		r, e := tide.Reach(x, row)
		return r == tide.Range{}, e
	}}
	drying = call{"Dry", func(x tide.Table, heights []int, row, from, to int) (bool, api.Errno) {
		n, e := tide.Dry(x, from, to)
		return n == 0, e
	}}
	finding = call{"First", func(x tide.Table, heights []int, row, from, to int) (bool, api.Errno) {
		n, e := tide.First(x)
		return n == 0, e
	}}
	leaving = call{"Leave", func(x tide.Table, heights []int, row, from, to int) (bool, api.Errno) {
		l, e := tide.Leave(x)
		return l == nil, e
	}}
)

func calls() []call {
	return []call{playing, bounding, wetting, reaching, drying, finding, leaving}
}

// expect does the call, and wants the error, and with it nothing else.
func expect(t *testing.T, c call, x tide.Table, heights []int, row, from, to int, want api.Errno) {
	t.Helper()
	zero, e := c.do(x, heights, row, from, to)
	if e != want {
		t.Errorf("%s of %v, %v, %d, %d, %d: %v, not %v", c.name, x, heights, row, from, to, e, want)
	}
	if e != api.OK && !zero {
		t.Errorf("%s of %v, %v, %d, %d, %d: a result with %v", c.name, x, heights, row, from, to, e)
	}
}

// lows returns the least heights of a table.
func lows(x tide.Table) []int {
	var out []int
	for _, r := range x.Heights {
		out = append(out, r.Lo)
	}
	return out
}

// P2.1, and the row "all" of the errors: each call has the error of the table,
// before any other one; the proofs are false.
func TestErrorsOfTheTable(t *testing.T) {
	for _, y := range slices.Concat(limited(), invalid(), ordered()) {
		t.Run(y.name, func(t *testing.T) {
			if e := tide.CheckTable(y.table); e != y.want {
				t.Errorf("CheckTable of %v: %v, not %v", y.table, e, y.want)
			}
			if y.want == api.OK {
				return
			}
			for _, c := range calls() {
				expect(t, c, y.table, lows(y.table), 0, 0, 0, y.want)
				expect(t, c, y.table, nil, -1, 9, -1, y.want)
			}
			if tide.ProveTruth(y.table, lows(y.table)) || tide.ProveDry(y.table, 0, 0, 99) {
				t.Errorf("proved: %v", y.table)
			}
		})
	}
}

// A proof is false for a table that is not valid, also if all else would be as
// it says.
func TestNoProofOfAnInvalidTable(t *testing.T) {
	for _, x := range []tide.Table{
		{Last: 0, Heights: ranges(3, 3), Step: 100},
		{Last: 0, Heights: ranges(3, 3), Step: -1},
		{Last: 0, Heights: ranges(3, 3), Levels: []int{100}},
		{Last: 0, Heights: ranges(3, 3), Levels: make([]int, 7)},
		{Last: 0, Heights: ranges(3, 3), Marks: make([]tide.Mark, 6)},
		{Last: 0, Heights: ranges(3, 3), Marks: []tide.Mark{mark(0, 0, 3, 100)}},
		{Last: 0, Heights: ranges(3, 3), Marks: []tide.Mark{mark(0, 0, -1, 3)}},
		{Last: 1, Heights: ranges(3, 99, 3, 99), Step: 99},
		{Last: 0, Heights: ranges(3, 100)},
		{Last: 10, Heights: make([]tide.Range, 11)},
	} {
		if tide.ProveTruth(x, lows(x)) || tide.ProveDry(x, 0, 0, 100) {
			t.Errorf("proved: %v", x)
		}
	}
}

// Lists that are not of the table: their length, their heights, their steps.
func TestNoList(t *testing.T) {
	for _, l := range [][]int{
		nil, {}, {3}, {3, 6, 8}, {3, 6, 8, 4, 4}, {3, 6, 8, 4, 0}, make([]int, 11), make([]int, 10),
		{1, 5, 8, 4}, {5, 5, 8, 4}, {3, 7, 8, 4}, {3, 4, 8, 4}, {3, 6, 8, 3}, {3, 6, 8, 6},
		{3, 6, 9, 4}, {2, 6, 9, 4}, {4, 5, 9, 4},
		{-3, 6, 8, 4}, {math.MinInt, 6, 8, 4}, {3, math.MaxInt, 8, 4}, {3, 6, 8, 260},
	} {
		expect(t, playing, example(), l, 0, 0, 0, api.ErrRange)
		if tide.ProveTruth(example(), l) {
			t.Errorf("proved: %v", l)
		}
	}
	for _, l := range [][]int{{2, 6, 8, 4}, {2, 5, 9, 5}, {4, 6, 8, 5}, {2, 5, 8, 4}} {
		expect(t, playing, example(), l, 0, 0, 0, api.OK)
		if !tide.ProveTruth(example(), l) {
			t.Errorf("not proved: %v", l)
		}
	}
}

// A list that is too short is not one of a table whose last heights are 0.
func TestNoListWithoutTheLastHours(t *testing.T) {
	x := tide.Table{Last: 2, Heights: ranges(0, 1, 0, 1, 0, 1), Step: 1, Levels: []int{0}}
	for _, l := range [][]int{nil, {0}, {1, 0}, {1, 0, 0, 0}, make([]int, 10)} {
		expect(t, playing, x, l, 0, 0, 0, api.ErrRange)
		if tide.ProveTruth(x, l) {
			t.Errorf("proved: %v", l)
		}
	}
	expect(t, playing, x, []int{1, 0, 0}, 0, 0, 0, api.OK)
}

// Play does not ask about marks; ProveTruth does.
func TestPlayWithoutATruth(t *testing.T) {
	x := example(mark(1, 3, 9, 9), mark(3, 3, 4, 4))
	expect(t, playing, x, []int{3, 6, 8, 4}, 0, 0, 0, api.OK)
	expect(t, playing, x, []int{3, 6, 9, 4}, 0, 0, 0, api.ErrRange)
	for _, l := range listsOf(x) {
		if tide.ProveTruth(x, l) {
			t.Errorf("proved: %v", l)
		}
	}
}

// What is asked about is checked after the table, and before it is asked
// whether the table has a truth.
func TestNoSuchRowOrHours(t *testing.T) {
	least, most := math.MinInt, math.MaxInt
	for _, x := range []tide.Table{example(), example(mark(1, 3, 9, 9), mark(3, 3, 4, 4))} {
		for _, row := range []int{-1, 3, 4, least, most} {
			expect(t, wetting, x, nil, row, 0, 0, api.ErrRange)
			expect(t, wetting, x, nil, row, 0, 4, api.ErrRange)
			expect(t, reaching, x, nil, row, 0, 0, api.ErrRange)
		}
		for _, hour := range []int{-1, 4, 9, least, most} {
			expect(t, wetting, x, nil, 0, 0, hour, api.ErrRange)
			expect(t, drying, x, nil, 0, hour, hour, api.ErrRange)
			expect(t, drying, x, nil, 0, 0, hour, api.ErrRange)
			expect(t, drying, x, nil, 0, hour, 3, api.ErrRange)
		}
		expect(t, drying, x, nil, 0, 1, 0, api.ErrRange)
		expect(t, drying, x, nil, 0, 3, 2, api.ErrRange)
		expect(t, drying, x, nil, 0, least, most, api.ErrRange)
		expect(t, drying, x, nil, 0, most, least, api.ErrRange)
	}
	for _, c := range []call{wetting, reaching, drying} {
		expect(t, c, example(), nil, 0, 0, 0, api.OK)
		expect(t, c, example(), nil, 2, 0, 3, api.OK)
		expect(t, c, example(), nil, 2, 3, 3, api.OK)
	}
	none := example()
	none.Levels = nil
	expect(t, wetting, none, nil, 0, 0, 0, api.ErrRange)
	expect(t, reaching, none, nil, 0, 0, 0, api.ErrRange)
}

// A table without a truth, because of one mark, and of several ones.
func TestTableWithoutATruth(t *testing.T) {
	for _, x := range []tide.Table{
		example(mark(1, 3, 9, 9), mark(3, 3, 4, 4)),
		example(mark(0, 3, 0, 7)),
		example(mark(0, 0, 3, 4), mark(0, 0, 2, 2)),
	} {
		if e := tide.CheckTable(x); e != api.OK {
			t.Errorf("CheckTable of %v: %v", x, e)
		}
		for _, c := range []call{bounding, wetting, reaching, drying} {
			expect(t, c, x, nil, 0, 0, 0, api.ErrFalse)
		}
		expect(t, finding, x, nil, 0, 0, 0, api.OK)
		expect(t, leaving, x, nil, 0, 0, 0, api.OK)
	}
	expect(t, finding, example(), nil, 0, 0, 0, api.ErrNone)
}

// P1: no call panics, whatever the arguments are.
func TestNothingPanics(t *testing.T) {
	odd := []int{math.MinInt, -1 << 32, -1, 0, 1, 2, 9, 10, 99, 100, 1 << 32, math.MaxInt}
	for _, a := range odd {
		for _, b := range odd {
			for _, x := range []tide.Table{
				{Last: a, Heights: ranges(0, 1), Step: b},
				{Last: 1, Heights: ranges(a, b, b, a), Step: 99},
				{Last: 1, Heights: ranges(0, 9, a, b), Step: 99, Levels: []int{a, b}},
				{Last: a, Heights: nil, Levels: []int{b}},
				{Last: 1, Heights: ranges(0, 9, 0, 9), Step: 9, Levels: []int{3, a}, Marks: []tide.Mark{mark(0, 1, 3, 3)}},
				{Last: 1, Heights: ranges(0, 9, 0, 9), Step: 9, Levels: []int{3}, Marks: []tide.Mark{mark(a, b, 3, 3)}},
				{Last: 1, Heights: ranges(0, 9, 0, 9), Step: 9, Levels: []int{3}, Marks: []tide.Mark{mark(0, 1, a, b)}},
				{Last: 9, Heights: make([]tide.Range, 10), Step: b, Levels: []int{0}},
			} {
				tide.CheckTable(x)
				for _, heights := range [][]int{nil, {a}, {a, b}, {0, 1}, make([]int, 12)} {
					for _, c := range calls() {
						c.do(x, heights, a, a, b)
						c.do(x, heights, 0, b, a)
					}
					tide.ProveTruth(x, heights)
					tide.ProveDry(x, a, b, a)
					tide.ProveDry(x, 0, 0, a)
				}
			}
		}
	}
}
