package wind_test

import (
	"math"
	"slices"
	"testing"

	"foreshore/api"
	"foreshore/wind"
)

// changed returns the beach of the example with a note, after a change.
func changed(f func(b *wind.Beach)) wind.Beach {
	b := example(note(1, 3))
	f(&b)
	return b
}

type flawed struct {
	name  string
	beach wind.Beach
	want  api.Errno
}

// limited are beaches at the limits and above them.
func limited() []flawed {
	return []flawed{
		{"valid", changed(func(b *wind.Beach) {}), api.OK},
		{"all limits", largest(), api.OK},
		{"Last too great", changed(func(b *wind.Beach) { b.Last = 5 }), api.ErrLimit},
		{"Last too great, with hours", changed(func(b *wind.Beach) {
			b.Last, b.Sun, b.Winds = 5, make([]int, 6), slices.Repeat([][]int{{0}}, 6)
		}), api.ErrLimit},
		{"greatest Last", changed(func(b *wind.Beach) { b.Last, b.Sun, b.Winds = 4, make([]int, 5), slices.Repeat([][]int{{0}}, 5) }), api.OK},
		{"too many rows", changed(func(b *wind.Beach) { b.Rows = 4 }), api.ErrLimit},
		{"too many rows, with directions", changed(func(b *wind.Beach) { b.Rows, b.Face = 4, make([]int, 4) }), api.ErrLimit},
		{"most rows", changed(func(b *wind.Beach) { b.Rows, b.Face = 3, make([]int, 3) }), api.OK},
		{"too many places", changed(func(b *wind.Beach) { b.Places = 6 }), api.ErrLimit},
		{"most places", changed(func(b *wind.Beach) { b.Places = 5 }), api.OK},
		{"too many breaks", changed(func(b *wind.Beach) { b.Breaks = make([]wind.Spot, 5) }), api.ErrLimit},
		{"most breaks, all at one spot", changed(func(b *wind.Beach) { b.Breaks = make([]wind.Spot, 4) }), api.OK},
		{"no breaks", changed(func(b *wind.Beach) { b.Breaks = nil }), api.OK},
		{"too many notes", changed(func(b *wind.Beach) { b.Notes = make([]wind.Note, 6) }), api.ErrLimit},
		{"most notes", changed(func(b *wind.Beach) { b.Notes = make([]wind.Note, 5) }), api.OK},
		{"no notes", changed(func(b *wind.Beach) { b.Notes = nil }), api.OK},
		{"a Reach above its limit is not valid", changed(func(b *wind.Beach) { b.Reach = 5 }), api.ErrArg},
		{"greatest Reach", changed(func(b *wind.Beach) { b.Reach = 4 }), api.OK},
	}
}

// invalid are beaches that are not valid otherwise, and ones that are just so.
func invalid() []flawed {
	return []flawed{
		{"no beach", wind.Beach{}, api.ErrArg},
		{"least beach", oneHour(1, 1, 0), api.OK},
		{"Last -1", changed(func(b *wind.Beach) { b.Last = -1 }), api.ErrArg},
		{"Last -1 and no hours", changed(func(b *wind.Beach) { b.Last, b.Sun, b.Winds, b.Notes = -1, nil, nil, nil }), api.ErrArg},
		{"Last too small", changed(func(b *wind.Beach) { b.Last, b.Notes = 0, nil }), api.ErrArg},
		{"no rows", changed(func(b *wind.Beach) { b.Rows, b.Face, b.Breaks = 0, nil, nil }), api.ErrArg},
		{"rows -1", changed(func(b *wind.Beach) { b.Rows, b.Face, b.Breaks = -1, nil, nil }), api.ErrArg},
		{"no places", changed(func(b *wind.Beach) { b.Places, b.Breaks = 0, nil }), api.ErrArg},
		{"places -1", changed(func(b *wind.Beach) { b.Places, b.Breaks = -1, nil }), api.ErrArg},
		{"Reach -1", changed(func(b *wind.Beach) { b.Reach = -1 }), api.ErrArg},
		{"Reach 0", changed(func(b *wind.Beach) { b.Reach = 0 }), api.OK},
		{"fewer rows that face", changed(func(b *wind.Beach) { b.Face = []int{2} }), api.ErrArg},
		{"more rows that face", changed(func(b *wind.Beach) { b.Face = []int{2, 2, 2} }), api.ErrArg},
		{"facing -1", changed(func(b *wind.Beach) { b.Face[1] = -1 }), api.ErrArg},
		{"facing 4", changed(func(b *wind.Beach) { b.Face[1] = 4 }), api.ErrArg},
		{"facing 0 and 3", changed(func(b *wind.Beach) { b.Face = []int{0, 3} }), api.OK},
		{"sun of fewer hours", changed(func(b *wind.Beach) { b.Sun = []int{2} }), api.ErrArg},
		{"sun of more hours", changed(func(b *wind.Beach) { b.Sun = []int{2, 3, 2} }), api.ErrArg},
		{"sun -2", changed(func(b *wind.Beach) { b.Sun[1] = -2 }), api.ErrArg},
		{"sun -1", changed(func(b *wind.Beach) { b.Sun[1] = -1 }), api.OK},
		{"sun 3", changed(func(b *wind.Beach) { b.Sun[0] = 3 }), api.OK},
		{"sun 4", changed(func(b *wind.Beach) { b.Sun[1] = 4 }), api.ErrArg},
		{"winds of fewer hours", changed(func(b *wind.Beach) { b.Winds = b.Winds[:1] }), api.ErrArg},
		{"winds of more hours", changed(func(b *wind.Beach) { b.Winds = append(b.Winds, []int{0}) }), api.ErrArg},
		{"no winds in an hour", changed(func(b *wind.Beach) { b.Winds[0] = nil }), api.ErrArg},
		{"no winds in the last hour", changed(func(b *wind.Beach) { b.Winds[1] = []int{} }), api.ErrArg},
		{"all winds", changed(func(b *wind.Beach) { b.Winds[0] = []int{0, 1, 2, 3} }), api.OK},
		{"winds that fall", changed(func(b *wind.Beach) { b.Winds[0] = []int{1, 3, 2} }), api.ErrArg},
		{"a wind twice", changed(func(b *wind.Beach) { b.Winds[0] = []int{1, 3, 3} }), api.ErrArg},
		{"a wind from -1", changed(func(b *wind.Beach) { b.Winds[1] = []int{-1, 3} }), api.ErrArg},
		{"a wind from 4", changed(func(b *wind.Beach) { b.Winds[1] = []int{0, 3, 4} }), api.ErrArg},
		{"a break north of the beach", changed(func(b *wind.Beach) { b.Breaks[0] = spot(-1, 0) }), api.ErrArg},
		{"a break south of the beach", changed(func(b *wind.Beach) { b.Breaks[0] = spot(2, 0) }), api.ErrArg},
		{"a break west of the beach", changed(func(b *wind.Beach) { b.Breaks[0] = spot(0, -1) }), api.ErrArg},
		{"a break east of the beach", changed(func(b *wind.Beach) { b.Breaks = append(b.Breaks, spot(0, 3)) }), api.ErrArg},
		{"a break in the last place", changed(func(b *wind.Beach) { b.Breaks[0] = spot(1, 2) }), api.OK},
		{"a note of the hour -1", changed(func(b *wind.Beach) { b.Notes[0].Hour = -1 }), api.ErrArg},
		{"a note of the hour 0", changed(func(b *wind.Beach) { b.Notes[0].Hour = 0 }), api.OK},
		{"a note of no hour", changed(func(b *wind.Beach) { b.Notes[0].Hour = 2 }), api.ErrArg},
		{"a note from -1", changed(func(b *wind.Beach) { b.Notes[0].From = -1 }), api.ErrArg},
		{"a note from 4", changed(func(b *wind.Beach) { b.Notes[0].From = 4 }), api.ErrArg},
		{"a note of a wind that cannot be", changed(func(b *wind.Beach) { b.Notes[0].From = 1 }), api.OK},
		{"the last one of the notes", changed(func(b *wind.Beach) { b.Notes = append(b.Notes, note(2, 0)) }), api.ErrArg},
	}
}

// ordered are beaches with several errors, of which the first one counts.
func ordered() []flawed {
	return []flawed{
		{"Last too great, and all else", wind.Beach{Last: 5, Reach: -1}, api.ErrLimit},
		{"too many rows, and Last -1", changed(func(b *wind.Beach) { b.Rows, b.Last = 4, -1 }), api.ErrLimit},
		{"too many places, and no rows", changed(func(b *wind.Beach) { b.Rows, b.Places = 0, 6 }), api.ErrLimit},
		{"too many breaks, off the beach", changed(func(b *wind.Beach) { b.Breaks = slices.Repeat([]wind.Spot{spot(9, 9)}, 5) }), api.ErrLimit},
		{"too many notes, of no hour", changed(func(b *wind.Beach) { b.Notes = slices.Repeat([]wind.Note{note(9, 9)}, 6) }), api.ErrLimit},
		{"too many notes, and no winds", changed(func(b *wind.Beach) { b.Notes, b.Winds = make([]wind.Note, 6), nil }), api.ErrLimit},
		{"a Reach of 5, and notes that cannot be right", changed(func(b *wind.Beach) { b.Reach, b.Notes[0].From = 5, 1 }), api.ErrArg},
	}
}

// asked is what a call is asked about.
type asked struct {
	plan  [][]int
	truth []int
	place wind.Spot
	hour  int
	work  int
}

// call is a call with what it has together with an error.
type call struct {
	name string
	do   func(b wind.Beach, a asked) (zero bool, e api.Errno)
}

var (
	playing = call{"Play", func(b wind.Beach, a asked) (bool, api.Errno) {
		l, e := wind.Play(b, a.plan, a.truth)
		return l == nil, e
	}}
	working = call{"Work", func(b wind.Beach, a asked) (bool, api.Errno) {
		n, e := wind.Work(b, a.plan)
		return n == 0, e
	}}
	bounding = call{"Bounds", func(b wind.Beach, a asked) (bool, api.Errno) {
		l, e := wind.Bounds(b, a.plan)
		return l == nil, e
	}}
	calming = call{"Calm", func(b wind.Beach, a asked) (bool, api.Errno) {
		v, e := wind.Calm(b, a.plan, a.place, a.hour)
		return v == 0, e
	}}
	totalling = call{"Total", func(b wind.Beach, a asked) (bool, api.Errno) {
		r, e := wind.Total(b, a.plan)
		return r == wind.Range{}, e
	}}
	besting = call{"Best", func(b wind.Beach, a asked) (bool, api.Errno) {
		plan, n, e := wind.Best(b, a.work)
		return plan == nil && n == 0, e
	}}
	finding = call{"First", func(b wind.Beach, a asked) (bool, api.Errno) {
		n, e := wind.First(b)
		return n == 0, e
	}}
	leaving = call{"Leave", func(b wind.Beach, a asked) (bool, api.Errno) {
		l, e := wind.Leave(b)
		return l == nil, e
	}}
)

func calls() []call {
	return []call{playing, working, bounding, calming, totalling, besting, finding, leaving}
}

// planned are the calls that have a plan.
func planned() []call { return []call{playing, working, bounding, calming, totalling} }

// expect does the call, and wants the error, and with it nothing else.
func expect(t *testing.T, c call, b wind.Beach, a asked, want api.Errno) {
	t.Helper()
	zero, e := c.do(b, a)
	if e != want {
		t.Errorf("%s of %v, %v: %v, not %v", c.name, b, a, e, want)
	}
	if e != api.OK && !zero {
		t.Errorf("%s of %v, %v: a result with %v", c.name, b, a, e)
	}
}

// staying asks about the beach of the example.
func staying() asked { return asked{plan: stay(), truth: []int{3, 0}} }

// P4.1, and the row "all" of the errors: each call has the error of the beach,
// before any other one; the proofs are false.
func TestErrorsOfTheBeach(t *testing.T) {
	for _, x := range slices.Concat(limited(), invalid(), ordered()) {
		t.Run(x.name, func(t *testing.T) {
			if e := wind.CheckBeach(x.beach); e != x.want {
				t.Errorf("CheckBeach of %v: %v, not %v", x.beach, e, x.want)
			}
			if x.want == api.OK {
				return
			}
			plan := slices.Repeat([][]int{slices.Clone(x.beach.Face)}, len(x.beach.Winds))
			var truth []int
			for _, l := range x.beach.Winds {
				truth = append(truth, append(slices.Clone(l), 0)[0])
			}
			for _, c := range calls() {
				expect(t, c, x.beach, staying(), x.want)
				expect(t, c, x.beach, asked{plan: plan, truth: truth}, x.want)
				expect(t, c, x.beach, asked{place: spot(-1, 9), hour: -1, work: 100}, x.want)
			}
			for _, a := range []asked{staying(), {plan: plan, truth: truth}, {}} {
				if wind.ProveTruth(x.beach, a.truth) || wind.ProveTotal(x.beach, a.plan, 99, 0) {
					t.Errorf("proved: %v", x.beach)
				}
			}
		})
	}
}

// Plans that are none: their hours, their rows, and their directions.
func TestNoPlan(t *testing.T) {
	for _, plan := range [][][]int{
		nil, {}, {nil, nil}, {{2, 2}}, {{2, 2}, {2, 2}, {2, 2}}, {{2, 2}, nil}, {{2}, {2}}, {{2, 2}, {2}}, {{2, 2}, {2, 2, 2}}, {{2, 2, 2}, {2, 2, 2}},
		{{2, 2}, {2, 4}}, {{4, 2}, {2, 2}}, {{2, -1}, {2, 2}}, {{2, 2}, {-1, 2}}, {{2, 2}, {2, 258}}, {{2, 2}, {math.MaxInt, 2}}, {{math.MinInt, 2}, {2, 2}},
		make([][]int, 9), slices.Repeat([][]int{{2, 2}}, 6),
	} {
		a := staying()
		a.plan = plan
		for _, c := range planned() {
			expect(t, c, example(), a, api.ErrRange)
			expect(t, c, example(note(1, 3), note(1, 0)), a, api.ErrRange)
		}
		if wind.ProveTotal(example(), plan, 99, 0) {
			t.Errorf("proved: %v", plan)
		}
	}
	for _, plan := range [][][]int{stay(), turn(), {{0, 1}, {2, 3}}, {{3, 3}, {0, 0}}} {
		a := staying()
		a.plan = plan
		for _, c := range planned() {
			expect(t, c, example(), a, api.OK)
		}
	}
}

// Lists that are no truths: their length, and their winds.
func TestNoTruth(t *testing.T) {
	for _, l := range [][]int{
		nil, {}, {3}, {3, 0, 0}, {3, 0, 3}, {0, 0}, {3, 1}, {3, 2}, {0, 3}, {3, -1}, {-1, 0}, {3, 4}, {3, 256}, {3, math.MaxInt}, {math.MinInt, 0}, make([]int, 5), make([]int, 9),
	} {
		a := staying()
		a.truth = l
		expect(t, playing, example(), a, api.ErrRange)
		if wind.ProveTruth(example(), l) {
			t.Errorf("proved: %v", l)
		}
	}
	for _, l := range [][]int{{3, 0}, {3, 3}} {
		a := staying()
		a.truth = l
		expect(t, playing, example(), a, api.OK)
		if !wind.ProveTruth(example(), l) {
			t.Errorf("not proved: %v", l)
		}
	}
}

// A list that is too short is not one of a beach whose last winds are from 0.
func TestNoTruthWithoutTheLastHours(t *testing.T) {
	b := example()
	b.Winds = [][]int{{0}, {0}}
	for _, l := range [][]int{nil, {0}, {0, 0, 0}, make([]int, 5)} {
		expect(t, playing, b, asked{plan: stay(), truth: l}, api.ErrRange)
		if wind.ProveTruth(b, l) {
			t.Errorf("proved: %v", l)
		}
	}
	expect(t, playing, b, asked{plan: stay(), truth: []int{0, 0}}, api.OK)
}

// Play does not ask about notes; ProveTruth does, about each of them.
func TestPlayWithoutATruth(t *testing.T) {
	for _, b := range []wind.Beach{example(note(1, 3)), example(note(0, 3), note(1, 3)), example(note(1, 3), note(1, 0)), example(note(1, 0), note(1, 3)), example(note(0, 1))} {
		expect(t, playing, b, staying(), api.OK)
		if wind.ProveTruth(b, []int{3, 0}) {
			t.Errorf("proved: %v", b)
		}
	}
	if b := example(note(1, 3), note(0, 3)); !wind.ProveTruth(b, []int{3, 3}) {
		t.Errorf("not proved: %v", b)
	}
	expect(t, playing, example(note(0, 1)), asked{plan: stay(), truth: []int{1, 0}}, api.ErrRange)
}

// What is asked about is checked after the beach, and before it is asked whether
// the beach has a truth.
func TestNoSuchPlaceOrHourOrWork(t *testing.T) {
	least, most := math.MinInt, math.MaxInt
	for _, b := range []wind.Beach{example(), example(note(1, 3), note(1, 0))} {
		for _, p := range []wind.Spot{spot(-1, 0), spot(2, 0), spot(0, -1), spot(0, 3), spot(2, 3), spot(least, 0), spot(0, most), spot(most, least)} {
			expect(t, calming, b, asked{plan: stay(), place: p}, api.ErrRange)
		}
		for _, hour := range []int{-1, 2, 4, 5, least, most} {
			expect(t, calming, b, asked{plan: stay(), hour: hour}, api.ErrRange)
		}
		for _, work := range []int{-1, 100, least, most} {
			expect(t, besting, b, asked{work: work}, api.ErrRange)
		}
	}
	expect(t, calming, example(), asked{plan: stay(), place: spot(1, 2), hour: 1}, api.OK)
	expect(t, calming, example(), asked{plan: stay(), place: spot(0, 0), hour: 0}, api.OK)
	expect(t, besting, example(), asked{work: 0}, api.OK)
	expect(t, besting, example(), asked{work: 99}, api.OK)
}

// A beach without a truth, because of one note, and of several ones.
func TestBeachWithoutATruth(t *testing.T) {
	for _, b := range []wind.Beach{
		example(note(1, 3), note(1, 0)),
		example(note(0, 0)),
		example(note(1, 1)),
		example(note(0, 3), note(1, 0), note(1, 2)),
	} {
		if e := wind.CheckBeach(b); e != api.OK {
			t.Errorf("CheckBeach of %v: %v", b, e)
		}
		for _, c := range []call{bounding, calming, totalling, besting} {
			expect(t, c, b, staying(), api.ErrFalse)
		}
		for _, c := range []call{playing, working, finding, leaving} {
			expect(t, c, b, staying(), api.OK)
		}
		if wind.ProveTotal(b, stay(), 99, 0) {
			t.Errorf("proved: %v", b)
		}
	}
	expect(t, finding, example(), staying(), api.ErrNone)
	expect(t, finding, example(note(1, 3), note(0, 3)), staying(), api.ErrNone)
}

// callAll does all calls of a beach.
func callAll(b wind.Beach, a asked) {
	wind.CheckBeach(b)
	for _, c := range calls() {
		c.do(b, a)
	}
	wind.ProveTruth(b, a.truth)
	wind.ProveTotal(b, a.plan, a.work, a.hour)
}

// P1: no call panics, whatever the arguments are.
func TestNothingPanics(t *testing.T) {
	odd := []int{math.MinInt, -1 << 32, -1, 0, 1, 2, 3, 4, 5, 99, 1 << 32, math.MaxInt}
	for _, m := range odd {
		for _, n := range odd {
			for _, change := range []func(b *wind.Beach){
				func(b *wind.Beach) {},
				func(b *wind.Beach) { b.Last, b.Rows = m, n },
				func(b *wind.Beach) { b.Places, b.Reach = m, n },
				func(b *wind.Beach) { b.Rows, b.Face = n, nil },
				func(b *wind.Beach) { b.Last, b.Sun, b.Winds = m, nil, nil },
				func(b *wind.Beach) { b.Face = []int{m, n} },
				func(b *wind.Beach) { b.Sun = []int{m, n} },
				func(b *wind.Beach) { b.Winds = [][]int{{m}, {m, n}} },
				func(b *wind.Beach) { b.Breaks = []wind.Spot{spot(m, n)} },
				func(b *wind.Beach) { b.Notes = []wind.Note{note(m, n)} },
			} {
				b := changed(change)
				for _, plan := range [][][]int{nil, {nil, nil}, {{m, n}, {n, m}}, make([][]int, 9), stay()} {
					callAll(b, asked{plan, []int{m, n}, spot(m, n), n, m})
					callAll(b, asked{plan, []int{3, 0}, spot(0, n), m, n})
					callAll(b, asked{plan, nil, spot(m, 0), 0, 0})
				}
			}
		}
	}
}
