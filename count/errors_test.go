package count_test

import (
	"math"
	"slices"
	"testing"

	"foreshore/api"
	"foreshore/count"
)

// broken are rows with their errors: each condition alone, what is just not an
// error, and several conditions together, of which the first one counts.
func broken() []struct {
	name string
	row  count.Row
	want api.Errno
} {
	change := func(f func(r *count.Row)) count.Row {
		r := example(0)
		f(&r)
		return r
	}
	return []struct {
		name string
		row  count.Row
		want api.Errno
	}{
		{"valid", example(0), api.OK},
		{"most places", row(make([]int, 9), 0, 0), api.OK},
		{"too many places", row(make([]int, 10), 0, 0), api.ErrLimit},
		{"one place", row([]int{1}, 0, 0), api.OK},
		{"no places", row(nil, 0, 0), api.ErrArg},
		{"no places, but a list", row([]int{}, 0, 0), api.ErrArg},
		{"most counts", change(func(r *count.Row) { r.Counts = make([]count.Count, 6) }), api.OK},
		{"too many counts", change(func(r *count.Row) { r.Counts = make([]count.Count, 7) }), api.ErrLimit},
		{"place 3", change(func(r *count.Row) { r.Places[4] = 3 }), api.ErrArg},
		{"place -1", change(func(r *count.Row) { r.Places[0] = -1 }), api.ErrArg},
		{"places 0, 1 and 2", row([]int{0, 1, 2}, 0, 0), api.OK},
		{"count of all places", change(func(r *count.Row) { r.Counts[1].Many = 5 }), api.OK},
		{"count of more places", change(func(r *count.Row) { r.Counts[1].Many = 6 }), api.ErrArg},
		{"count of no places", change(func(r *count.Row) { r.Counts[0] = first(0, 1) }), api.OK},
		{"count of fewer places", change(func(r *count.Row) { r.Counts[0].Many = -1 }), api.ErrArg},
		{"greatest number", change(func(r *count.Row) { r.Counts[1].Number, r.Off = 9, 9 }), api.OK},
		{"number too great", change(func(r *count.Row) { r.Counts[1].Number = 10 }), api.ErrArg},
		{"number 0", change(func(r *count.Row) { r.Counts[0].Number, r.Off = 0, 9 }), api.OK},
		{"number -1", change(func(r *count.Row) { r.Counts[0].Number = -1 }), api.ErrArg},
		{"greatest Wrong", change(func(r *count.Row) { r.Wrong = 6 }), api.OK},
		{"Wrong too great", change(func(r *count.Row) { r.Wrong = 7 }), api.ErrArg},
		{"Wrong -1", change(func(r *count.Row) { r.Wrong = -1 }), api.ErrArg},
		{"greatest Off", change(func(r *count.Row) { r.Off = 9 }), api.OK},
		{"Off too great", change(func(r *count.Row) { r.Off = 10 }), api.ErrArg},
		{"Off -1", change(func(r *count.Row) { r.Off = -1 }), api.ErrArg},
		{"least numbers", change(func(r *count.Row) { r.Places, r.Counts, r.Off = []int{0}, nil, 0 }), api.OK},
		{"places too many and wrong", row([]int{3, 3, 3, 3, 3, 3, 3, 3, 3, 3}, -1, -1), api.ErrLimit},
		{"counts too many, no places", row(nil, 7, 10, make([]count.Count, 7)...), api.ErrLimit},
	}
}

// call is a call with what it has together with an error.
type call struct {
	name string
	do   func(r count.Row, truth []int, from, to int) (zero bool, e api.Errno)
}

func play(r count.Row, truth []int, from, to int) (bool, api.Errno) {
	l, e := count.Play(r, truth)
	return len(l) == 0, e
}

func least(r count.Row, truth []int, from, to int) (bool, api.Errno) {
	n, e := count.Least(r)
	return n == 0, e
}

// parted are the calls with a part, unparted those without one: of both the
// truths of the row are asked.
func parted() []call {
	return []call{
		{"Chairs", func(r count.Row, truth []int, from, to int) (bool, api.Errno) {
			n, e := count.Chairs(r, from, to)
			return n == count.Range{}, e
		}},
		{"Looks", func(r count.Row, truth []int, from, to int) (bool, api.Errno) {
			n, e := count.Looks(r, from, to)
			return n == 0, e
		}},
	}
}

func unparted() []call {
	return []call{
		{"Places", func(r count.Row, truth []int, from, to int) (bool, api.Errno) {
			l, e := count.Places(r)
			return len(l) == 0, e
		}},
		{"Right", func(r count.Row, truth []int, from, to int) (bool, api.Errno) {
			l, e := count.Right(r)
			return len(l) == 0, e
		}},
		{"Look", func(r count.Row, truth []int, from, to int) (bool, api.Errno) {
			place, left, e := count.Look(r)
			return place == 0 && left == 0, e
		}},
	}
}

func calls() []call {
	return slices.Concat([]call{{"Play", play}, {"Least", least}}, parted(), unparted())
}

// expect does the calls, and wants the error, and with it nothing else.
func expect(t *testing.T, l []call, r count.Row, truth []int, from, to int, want api.Errno) {
	t.Helper()
	for _, c := range l {
		zero, e := c.do(r, truth, from, to)
		if e != want {
			t.Errorf("%s of %v, %v, %d, %d: %v, not %v", c.name, r, truth, from, to, e, want)
		}
		if e != api.OK && !zero {
			t.Errorf("%s of %v, %v, %d, %d: a result with %v", c.name, r, truth, from, to, e)
		}
	}
}

// P1.1, and the row "all" of the errors: each call has the error of the row,
// before any other one; the proofs are false.
func TestErrorsOfTheRow(t *testing.T) {
	for _, x := range broken() {
		t.Run(x.name, func(t *testing.T) {
			if e := count.CheckRow(x.row); e != x.want {
				t.Errorf("CheckRow of %v: %v, not %v", x.row, e, x.want)
			}
			if x.want == api.OK {
				return
			}
			expect(t, calls(), x.row, x.row.Places, 0, len(x.row.Places)-1, x.want)
			expect(t, calls(), x.row, nil, 9, -9, x.want)
			if count.ProveTruth(x.row, x.row.Places) || count.ProveLeast(x.row, x.row.Places, 6) {
				t.Errorf("proved: %v", x.row)
			}
		})
	}
}

// A proof is false for a row that is not valid, also if the list would be a
// truth of it otherwise.
func TestNoProofOfAnInvalidRow(t *testing.T) {
	long := make([]int, 10)
	for _, x := range []struct {
		r     count.Row
		truth []int
	}{
		{row(nil, 0, 0), nil},
		{row(long, 0, 0), long},
		{row([]int{1}, 7, 0), []int{1}},
		{row([]int{1}, -1, 0), []int{1}},
		{row([]int{1}, 0, 10), []int{1}},
		{row([]int{1}, 6, 9, first(1, 10)), []int{1}},
		{row([]int{1}, 0, 0, make([]count.Count, 7)...), []int{1}},
		{row([]int{3}, 0, 0), []int{3}},
		{row([]int{3}, 0, 0), []int{1}},
	} {
		if count.ProveTruth(x.r, x.truth) || count.ProveLeast(x.r, x.truth, 6) {
			t.Errorf("proved: %v, %v", x.r, x.truth)
		}
	}
}

func TestNoTruth(t *testing.T) {
	r := example(2)
	for _, truth := range [][]int{
		nil, {}, {0, 1, 1, 1}, {0, 1, 1, 1, 1, 0}, {0, 1, 1, 1, 1, 1, 1, 1, 1, 1, 1},
		{0, 1, 0, 1, 1}, {0, 1, 2, 1, 1}, {2, 1, 1, 1, 1}, {0, 1, 1, 1, 2}, {-1, 1, 1, 1, 1},
		{256, 1, 1, 1, 1}, {1, 257, 1, 1, 1}, {math.MinInt, 1, 1, 1, 1},
	} {
		expect(t, []call{{"Play", play}}, r, truth, 0, 0, api.ErrRange)
		if count.ProveTruth(r, truth) || count.ProveLeast(r, truth, 6) {
			t.Errorf("proved: %v", truth)
		}
	}
}

// Play asks only whether the list is a truth, not whether it explains the
// counts, nor whether the row has a truth.
func TestPlayWithoutATruthOfTheRow(t *testing.T) {
	l, e := count.Play(row([]int{2, 0}, 0, 0, first(2, 9), last(1, 1)), []int{1, 0})
	if !slices.Equal(l, []int{8, 1}) || e != api.OK {
		t.Errorf("Play: %v, %v", l, e)
	}
}

// The part is checked after the row, and before it is asked whether the row
// has a truth.
func TestNoSuchPart(t *testing.T) {
	parts := [][2]int{{-1, 0}, {-1, 4}, {0, 5}, {5, 5}, {2, 1}, {4, 0}, {-1, -1}, {0, -1},
		{math.MinInt, math.MaxInt}, {math.MaxInt, math.MinInt}, {0, math.MaxInt}, {math.MinInt, 0}, {math.MaxInt, math.MaxInt}}
	for _, r := range []count.Row{example(0), example(0, first(5, 3))} {
		for _, p := range parts {
			expect(t, parted(), r, nil, p[0], p[1], api.ErrRange)
		}
	}
	expect(t, parted(), example(0), nil, 4, 4, api.OK)
	expect(t, parted(), example(0), nil, 0, 4, api.OK)
}

// A row without a truth, because of Wrong alone, and because of Off.
func TestRowWithoutATruth(t *testing.T) {
	for _, x := range []struct {
		r     count.Row
		least api.Errno
	}{
		{example(0, first(5, 3)), api.OK},
		{example(1, first(5, 2)), api.OK},
		{example(6, first(5, 0)), api.ErrShort},
		{row([]int{2}, 6, 1, first(1, 3)), api.ErrShort},
		{row([]int{0}, 0, 0, first(1, 1)), api.ErrShort},
		{row([]int{0}, 0, 1, first(1, 1)), api.OK},
	} {
		expect(t, parted(), x.r, nil, 0, 0, api.ErrFalse)
		expect(t, unparted(), x.r, nil, 0, 0, api.ErrFalse)
		expect(t, []call{{"Least", least}}, x.r, nil, 0, 0, x.least)
		if e := count.CheckRow(x.r); e != api.OK {
			t.Errorf("CheckRow of %v: %v", x.r, e)
		}
	}
}

// P1: no call panics, whatever the arguments are.
func TestNothingPanics(t *testing.T) {
	odd := []int{math.MinInt, -1 << 32, -1, 0, 1, 2, 3, 9, 10, 1 << 32, math.MaxInt}
	for _, a := range odd {
		for _, b := range odd {
			for _, r := range []count.Row{
				row([]int{a, b}, 0, 0),
				row([]int{2, 2}, a, b),
				row([]int{2, 2}, 6, 9, first(a, b), last(b, a)),
				row([]int{2, 2}, 6, 9, last(a, b)),
				row(nil, a, b, first(b, a)),
			} {
				count.CheckRow(r)
				for _, truth := range [][]int{nil, {a}, {a, b}, {0, 1}, r.Places} {
					for _, c := range calls() {
						c.do(r, truth, a, b)
					}
					count.ProveTruth(r, truth)
					count.ProveLeast(r, truth, a)
				}
			}
		}
	}
}
