package walk_test

import (
	"math"
	"slices"
	"testing"

	"foreshore/api"
	"foreshore/count"
	"foreshore/walk"
)

// changed returns the day of the example with a line, after a change.
func changed(f func(d *walk.Day)) walk.Day {
	d := example(right(0, 2, 6))
	f(&d)
	return d
}

type flawed struct {
	name string
	day  walk.Day
	want api.Errno
}

// limited are days at the limits and above them, and with too few rows.
func limited() []flawed {
	return []flawed{
		{"valid", changed(func(d *walk.Day) {}), api.OK},
		{"no day", walk.Day{}, api.ErrArg},
		{"most rows", day(ranges(1, 1, 1, 1, 1, 1, 1, 1, 1, 1, 1, 1)), api.OK},
		{"too many rows", day(ranges(1, 1, 1, 1, 1, 1, 1, 1, 1, 1, 1, 1, 1, 1, 1, 1)), api.ErrLimit},
		{"too many rows in the Morning alone", changed(func(d *walk.Day) { d.Morning = slices.Repeat(d.Morning, 2) }), api.ErrLimit},
		{"too many rows in the Evening alone", changed(func(d *walk.Day) { d.Evening = slices.Repeat(d.Evening, 2) }), api.ErrArg},
		{"most lines", changed(func(d *walk.Day) { d.Lines = make([]walk.Line, 5) }), api.OK},
		{"too many lines", changed(func(d *walk.Day) { d.Lines = make([]walk.Line, 6) }), api.ErrLimit},
		{"no lines", changed(func(d *walk.Day) { d.Lines = nil }), api.OK},
		{"no rows in the Morning", changed(func(d *walk.Day) { d.Morning = nil }), api.ErrArg},
		{"no rows in the Evening", changed(func(d *walk.Day) { d.Evening = nil }), api.ErrArg},
		{"one row", day(ranges(1, 1, 1, 1)), api.ErrArg},
		{"fewer rows in the Morning", changed(func(d *walk.Day) { d.Morning = d.Morning[:1] }), api.ErrArg},
		{"fewer rows in the Evening", changed(func(d *walk.Day) { d.Evening = d.Evening[:1] }), api.ErrArg},
		{"more rows in the Evening", changed(func(d *walk.Day) { d.Evening = append(d.Evening, places(1)) }), api.ErrArg},
		{"more rows in the Morning", changed(func(d *walk.Day) { d.Morning = append(d.Morning, places(1)) }), api.ErrArg},
	}
}

// untrue is a row without a truth.
func untrue() count.Row {
	r := places(1, 1, 1)
	r.Counts = []count.Count{{Many: 3, Number: 2}}
	return r
}

// tooLong is a row with too many places.
func tooLong() count.Row { return places(make([]int, 10)...) }

// invalidRows are days in which count.Chairs of a row has an error, and ones that
// are just so.
func invalidRows() []flawed {
	return []flawed{
		{"a row without places in the Morning", changed(func(d *walk.Day) { d.Morning[0] = places() }), api.ErrArg},
		{"a row without places in the Evening", changed(func(d *walk.Day) { d.Evening[1] = places() }), api.ErrArg},
		{"a row without places, with too many counts", changed(func(d *walk.Day) { d.Evening[1] = count.Row{Counts: make([]count.Count, 7)} }), api.ErrLimit},
		{"a place of 3", changed(func(d *walk.Day) { d.Morning[1].Places[2] = 3 }), api.ErrArg},
		{"a place of -1", changed(func(d *walk.Day) { d.Evening[0].Places[0] = -1 }), api.ErrArg},
		{"too many places in the Morning", changed(func(d *walk.Day) { d.Morning[1] = tooLong() }), api.ErrLimit},
		{"too many places in the Evening", changed(func(d *walk.Day) { d.Evening[0] = tooLong() }), api.ErrLimit},
		{"most places", changed(func(d *walk.Day) { d.Morning[0].Places = append(d.Morning[0].Places, 0, 0, 0, 0, 0) }), api.OK},
		{"a count of too many places", changed(func(d *walk.Day) { d.Evening[1].Counts[0].Many = 4 }), api.ErrArg},
		{"a Wrong of 7", changed(func(d *walk.Day) { d.Evening[1].Wrong = 7 }), api.ErrArg},
		{"an Off of -1", changed(func(d *walk.Day) { d.Evening[1].Off = -1 }), api.ErrArg},
		{"no truth of a row of the Morning", changed(func(d *walk.Day) { d.Morning[0] = untrue() }), api.ErrFalse},
		{"no truth of a row of the Evening", changed(func(d *walk.Day) { d.Evening[1] = untrue() }), api.ErrFalse},
		{"too many chairs, of three places", changed(func(d *walk.Day) { d.Evening[1].Counts[0].Number = 4 }), api.ErrFalse},
		{"too many chairs, with Wrong and Off", changed(func(d *walk.Day) {
			d.Evening[1].Counts[0].Number, d.Evening[1].Wrong, d.Evening[1].Off = 4, 1, 1
		}), api.OK},
	}
}

// invalidLines are days with lines that are not valid, and ones that are just so.
func invalidLines() []flawed {
	three := ranges(1, 1, 1, 1, 1, 1, 1, 1, 1, 1, 1, 1)
	return []flawed{
		{"the border 1 of two stretches", example(right(1, 0, 0)), api.ErrArg},
		{"the border -1", example(left(-1, 0, 0)), api.ErrArg},
		{"the border 1 of three stretches", day(three, right(1, 0, 0)), api.OK},
		{"the border 2 of three stretches", day(three, left(2, 0, 0)), api.ErrArg},
		{"0 to 12", example(left(0, 0, 12)), api.OK},
		{"0 to 13", example(right(0, 0, 13)), api.ErrArg},
		{"13", example(right(0, 13, 13)), api.ErrArg},
		{"12", example(right(0, 12, 12)), api.OK},
		{"-1 to 1", example(left(0, -1, 1)), api.ErrArg},
		{"0", example(left(0, 0, 0)), api.OK},
		{"a range turned", example(left(0, 2, 1)), api.ErrArg},
		{"the last line", example(left(0, 2, 2), left(0, 2, 2), right(1, 0, 0)), api.ErrArg},
		{"the first line", example(left(0, 2, 1), left(0, 2, 2), right(0, 0, 0)), api.ErrArg},
	}
}

// ordered are days with several errors, of which the first one counts.
func ordered() []flawed {
	return []flawed{
		{"too many lines, and no rows", changed(func(d *walk.Day) { d.Lines, d.Morning = make([]walk.Line, 6), nil }), api.ErrLimit},
		{"too many lines that are not valid", changed(func(d *walk.Day) { d.Lines = slices.Repeat([]walk.Line{left(7, 2, 1)}, 6) }), api.ErrLimit},
		{"too many rows, and fewer in the Evening", changed(func(d *walk.Day) { d.Morning, d.Evening = make([]count.Row, 4), nil }), api.ErrLimit},
		{"too many lines, and a row without a truth", changed(func(d *walk.Day) { d.Lines, d.Morning[0] = make([]walk.Line, 6), untrue() }), api.ErrLimit},
		{"fewer rows, and a row with too many places", changed(func(d *walk.Day) { d.Morning[0], d.Evening = tooLong(), d.Evening[:1] }), api.ErrArg},
		{"one row, without a truth", walk.Day{Morning: []count.Row{untrue()}, Evening: rows(to(1, 1))}, api.ErrArg},
		{"no truth, then no places", changed(func(d *walk.Day) { d.Morning[0], d.Morning[1] = untrue(), places() }), api.ErrFalse},
		{"no places, then no truth", changed(func(d *walk.Day) { d.Morning[0], d.Morning[1] = places(), untrue() }), api.ErrArg},
		{"no truth in the Morning, no places in the Evening", changed(func(d *walk.Day) { d.Morning[1], d.Evening[0] = untrue(), places() }), api.ErrFalse},
		{"no places in the Morning, no truth in the Evening", changed(func(d *walk.Day) { d.Morning[1], d.Evening[0] = places(), untrue() }), api.ErrArg},
		{"too many places in the Evening, no truth behind it", changed(func(d *walk.Day) { d.Evening[0], d.Evening[1] = tooLong(), untrue() }), api.ErrLimit},
		{"no truth in the Evening, too many places behind it", changed(func(d *walk.Day) { d.Evening[0], d.Evening[1] = untrue(), tooLong() }), api.ErrFalse},
		{"no truth, and a line that is not valid", changed(func(d *walk.Day) { d.Evening[1], d.Lines[0].Border = untrue(), 1 }), api.ErrFalse},
		{"too many places, and a line that is not valid", changed(func(d *walk.Day) { d.Morning[1], d.Lines[0].Many = tooLong(), to(2, 1) }), api.ErrLimit},
		{"no walk explains the counts, and a line that is not valid", unlike(right(0, 0, 13)), api.ErrArg},
		{"no walk explains the counts", unlike(right(0, 2, 6)), api.OK},
		{"no walk of the day", example(right(0, 0, 0)), api.OK},
	}
}

// asked is what a call is asked about.
type asked struct {
	morning, walk   []int
	stretch, border int
}

// call is a call with what it has together with an error.
type call struct {
	name string
	do   func(d walk.Day, a asked) (zero bool, e api.Errno)
}

var (
	playing = call{"Play", func(d walk.Day, a asked) (bool, api.Errno) {
		l, e := walk.Play(d, a.morning, a.walk)
		return l == nil, e
	}}
	bounding = call{"Chairs", func(d walk.Day, a asked) (bool, api.Errno) {
		m, n, e := walk.Chairs(d, a.stretch)
		return m == walk.Range{} && n == walk.Range{}, e
	}}
	passing = call{"Over", func(d walk.Day, a asked) (bool, api.Errno) {
		m, n, e := walk.Over(d, a.border)
		return m == walk.Range{} && n == walk.Range{}, e
	}}
	carrying = call{"Carried", func(d walk.Day, a asked) (bool, api.Errno) {
		r, e := walk.Carried(d)
		return r == walk.Range{}, e
	}}
	saving = call{"Fewest", func(d walk.Day, a asked) (bool, api.Errno) {
		l, e := walk.Fewest(d)
		return l == nil, e
	}}
	finding = call{"First", func(d walk.Day, a asked) (bool, api.Errno) {
		n, e := walk.First(d)
		return n == 0, e
	}}
	leaving = call{"Leave", func(d walk.Day, a asked) (bool, api.Errno) {
		l, e := walk.Leave(d)
		return l == nil, e
	}}
)

func calls() []call {
	return []call{playing, bounding, passing, carrying, saving, finding, leaving}
}

// expect does the call, and wants the error, and with it nothing else.
func expect(t *testing.T, c call, d walk.Day, a asked, want api.Errno) {
	t.Helper()
	zero, e := c.do(d, a)
	if e != want {
		t.Errorf("%s of %v, %v: %v, not %v", c.name, d, a, e, want)
	}
	if e != api.OK && !zero {
		t.Errorf("%s of %v, %v: a result with %v", c.name, d, a, e)
	}
}

// P6.1, and the row "all" of the errors: each call has the error of the day, before
// any other one; the proof is false.
func TestErrorsOfTheDay(t *testing.T) {
	for _, x := range slices.Concat(limited(), invalidRows(), invalidLines(), ordered()) {
		t.Run(x.name, func(t *testing.T) {
			if e := walk.CheckDay(x.day); e != x.want {
				t.Errorf("CheckDay of %v: %v, not %v", x.day, e, x.want)
			}
			if x.want == api.OK {
				return
			}
			for _, a := range []asked{{morning: list(3, 1), walk: list(2, 0)}, {stretch: -1, border: 9}, {walk: list(7), stretch: 3, border: -1}} {
				for _, c := range calls() {
					expect(t, c, x.day, a, x.want)
				}
			}
			for _, w := range [][]int{nil, list(0, 0), list(1, 0), list(2, 0), list(0, 0, 0, 0)} {
				if walk.ProveWalk(x.day, w) {
					t.Errorf("proved: %v, %v", x.day, w)
				}
			}
		})
	}
}

// A proof is false for a day that is not valid, also if all else would be as it
// says.
func TestNoProofOfAnInvalidDay(t *testing.T) {
	two := ranges(1, 1, 1, 1, 1, 1, 1, 1)
	still := slices.Repeat([]walk.Line{right(0, 0, 0)}, 6)
	if !walk.ProveWalk(day(two, still[:5]...), list(0, 0)) {
		t.Error("not proved")
	}
	for _, d := range []walk.Day{
		day(two, still...),
		day(two, right(0, 0, 13)),
		day(two, left(0, -1, 0)),
		{Morning: rows(ranges(1, 1, 1, 1)...), Evening: rows(ranges(1, 1, 1, 1, 1, 1)...)},
		{Morning: []count.Row{row(1, 1), tooLong()}, Evening: []count.Row{row(1, 1), row(0, 0)}},
		{Morning: []count.Row{row(1, 1), row(0, 0)}, Evening: []count.Row{row(1, 1), tooLong()}},
	} {
		if walk.ProveWalk(d, list(0, 0)) {
			t.Errorf("proved: %v", d)
		}
	}
	if walk.ProveWalk(day(slices.Repeat(ranges(1, 1), 8)), make([]int, 6)) || walk.ProveWalk(day(ranges(1, 1, 1, 1)), nil) || walk.ProveWalk(walk.Day{}, nil) {
		t.Error("proved, with a wrong number of stretches")
	}
}

// Lists that are not morning's numbers, and lists that are no walks.
func TestNoNumbersAndNoWalk(t *testing.T) {
	least, most := math.MinInt, math.MaxInt
	d := example(right(0, 2, 6), left(0, 0, 4))
	for _, l := range [][]int{nil, {}, {3}, {3, 1, 0}, {2, 1}, {4, 1}, {3, 0}, {3, 3}, {1, 3}, {-3, 1}, {least, 1}, {3, most}, {3, 1 + 1<<32}} {
		expect(t, playing, d, asked{morning: l, walk: list(2, 0)}, api.ErrRange)
	}
	for _, l := range [][]int{nil, {}, {2}, {2, 0, 0}, {2, 0, 0, 0}, {7, 5}, {6, 7}, {-1, 0}, {2, -1}, {least, 0}, {2, most}, {2, 1 << 32}, make([]int, 6)} {
		expect(t, playing, d, asked{morning: list(3, 1), walk: l}, api.ErrRange)
		if walk.ProveWalk(d, l) {
			t.Errorf("proved: %v", l)
		}
	}
	for _, l := range [][]int{{3, 1}, {3, 2}} {
		expect(t, playing, d, asked{morning: l, walk: list(2, 0)}, api.OK)
	}
	for _, l := range [][]int{{0, 0}, {6, 0}, {0, 6}, {6, 6}} {
		expect(t, playing, d, asked{morning: list(3, 1), walk: l}, api.OK)
	}
}

// A list that is too short is not a walk of three stretches, though what is missing
// could be 0, nor is one that is too long a walk of two.
func TestNoWalkOfOtherStretches(t *testing.T) {
	two, three := day(ranges(1, 1, 1, 1, 1, 1, 1, 1)), day(slices.Repeat(ranges(1, 1), 6))
	for _, l := range [][]int{nil, {0}, {0, 0}, {0, 0, 0}, {0, 0, 0, 0}, {0, 0, 0, 0, 0}, {0, 0, 0, 0, 0, 0}} {
		for _, d := range []walk.Day{two, three} {
			want := api.ErrRange
			if len(l) == 2*len(d.Morning)-2 {
				want = api.OK
			}
			expect(t, playing, d, asked{morning: slices.Repeat(list(1), len(d.Morning)), walk: l}, want)
			if walk.ProveWalk(d, l) != (want == api.OK) {
				t.Errorf("ProveWalk of %v, %v", d, l)
			}
		}
	}
	expect(t, playing, three, asked{morning: list(1, 1), walk: list(0, 0, 0, 0)}, api.ErrRange)
	expect(t, playing, two, asked{morning: list(1, 1, 1), walk: list(0, 0)}, api.ErrRange)
}

// Play asks neither about the Evening nor about lines; ProveWalk does.
func TestPlayOfNoWalkOfTheDay(t *testing.T) {
	for _, d := range []walk.Day{unlike(), example(right(0, 3, 3)), example(left(0, 12, 12)), unlike(right(0, 7, 7))} {
		if l := play(t, d, list(3, 1), list(2, 1)); !slices.Equal(l, list(2, 2)) {
			t.Errorf("Play of %v: %v", d, l)
		}
		if walk.ProveWalk(d, list(2, 1)) || walk.ProveWalk(d, list(2, 0)) {
			t.Errorf("proved: %v", d)
		}
	}
}

// What is asked about is checked after the day, and before it is asked whether a
// walk explains the counts.
func TestNoSuchStretchOrBorder(t *testing.T) {
	least, most := math.MinInt, math.MaxInt
	for _, d := range []walk.Day{example(), unlike(), example(right(0, 0, 0)), unlike(right(0, 0, 0))} {
		for _, n := range []int{-1, 2, 3, least, most} {
			expect(t, bounding, d, asked{stretch: n}, api.ErrRange)
			expect(t, passing, d, asked{border: n}, api.ErrRange)
		}
		expect(t, passing, d, asked{border: 1}, api.ErrRange)
	}
	three := day(slices.Repeat(ranges(1, 1), 6))
	for _, n := range []int{0, 1, 2} {
		expect(t, bounding, three, asked{stretch: n}, api.OK)
	}
	for _, n := range []int{0, 1} {
		expect(t, passing, three, asked{border: n}, api.OK)
	}
	expect(t, bounding, three, asked{stretch: 3}, api.ErrRange)
	expect(t, passing, three, asked{border: 2}, api.ErrRange)
	expect(t, bounding, example(), asked{stretch: 1}, api.OK)
}

// Days whose counts no walk explains, days without a walk, and days without a wrong
// line.
func TestNoWalk(t *testing.T) {
	for _, x := range []struct {
		d                   walk.Day
		bounds, first, left api.Errno
	}{
		{example(), api.OK, api.ErrNone, api.OK},
		{example(right(0, 2, 6)), api.OK, api.ErrNone, api.OK},
		{example(right(0, 0, 0)), api.ErrFalse, api.OK, api.OK},
		{example(right(0, 0, 1), right(0, 2, 2)), api.ErrFalse, api.OK, api.OK},
		{unlike(), api.ErrShort, api.ErrShort, api.ErrShort},
		{unlike(right(0, 0, 0)), api.ErrShort, api.ErrShort, api.ErrShort},
		{day(ranges(7, 7, 0, 0, 0, 0, 7, 7)), api.ErrShort, api.ErrShort, api.ErrShort},
		{day(ranges(6, 6, 0, 0, 0, 0, 6, 6)), api.OK, api.ErrNone, api.OK},
		{day(ranges(0, 0, 7, 7, 7, 7, 0, 0)), api.ErrShort, api.ErrShort, api.ErrShort},
		{day(ranges(0, 9, 3, 3, 0, 9, 9, 9)), api.OK, api.ErrNone, api.OK},
		{day(ranges(0, 5, 3, 3, 0, 9, 9, 9)), api.ErrShort, api.ErrShort, api.ErrShort},
		{day(ranges(1, 1, 1, 1, 1, 1, 2, 2)), api.ErrShort, api.ErrShort, api.ErrShort},
		{day(ranges(9, 9, 9, 9, 0, 0, 3, 3, 9, 9, 6, 6)), api.OK, api.ErrNone, api.OK},
		{day(ranges(9, 9, 9, 9, 0, 0, 2, 2, 9, 9, 7, 7)), api.ErrShort, api.ErrShort, api.ErrShort},
		{day(ranges(9, 9, 0, 0, 9, 9, 0, 5, 9, 9, 0, 5)), api.OK, api.ErrNone, api.OK},
	} {
		if e := walk.CheckDay(x.d); e != api.OK {
			t.Errorf("CheckDay of %v: %v", x.d, e)
		}
		for _, c := range []call{bounding, passing, carrying, saving} {
			expect(t, c, x.d, asked{}, x.bounds)
		}
		expect(t, finding, x.d, asked{}, x.first)
		expect(t, leaving, x.d, asked{}, x.left)
	}
}

// callAll does all calls of a day.
func callAll(d walk.Day, a asked) {
	walk.CheckDay(d)
	for _, c := range calls() {
		c.do(d, a)
	}
	walk.ProveWalk(d, a.walk)
}

// P1: no call panics, whatever the arguments are.
func TestNothingPanics(t *testing.T) {
	odd := []int{math.MinInt, -1 << 32, -1, 0, 1, 2, 3, 6, 7, 9, 12, 13, 1 << 32, math.MaxInt}
	for _, m := range odd {
		for _, n := range odd {
			for _, change := range []func(d *walk.Day){
				func(d *walk.Day) {},
				func(d *walk.Day) { d.Morning, d.Evening = nil, make([]count.Row, 9) },
				func(d *walk.Day) { d.Morning, d.Evening = make([]count.Row, 9), nil },
				func(d *walk.Day) { d.Morning, d.Evening = make([]count.Row, 1), make([]count.Row, 1) },
				func(d *walk.Day) { d.Morning[0].Places = list(m, n) },
				func(d *walk.Day) { d.Evening[0].Wrong, d.Evening[0].Off = m, n },
				func(d *walk.Day) { d.Evening[1].Counts = []count.Count{{Many: m, Number: n}} },
				func(d *walk.Day) { d.Lines = []walk.Line{right(0, m, n)} },
				func(d *walk.Day) { d.Lines = []walk.Line{left(m, 0, n)} },
				func(d *walk.Day) { *d = unlike(left(m, n, n)) },
			} {
				d := changed(change)
				callAll(d, asked{list(m, n), list(n, m), m, n})
				callAll(d, asked{list(3, n), list(2, m), n, 0})
				callAll(d, asked{list(m, 1, n), list(0, 0, m, n), 0, m})
				callAll(d, asked{})
			}
		}
	}
}
