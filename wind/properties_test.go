package wind_test

import (
	"math/rand"
	"slices"
	"testing"

	"foreshore/api"
	"foreshore/wind"
)

// inside reports whether the first range is in the second one.
func inside(a, b wind.Range) bool { return b.Lo <= a.Lo && a.Hi <= b.Hi }

// proved returns the truths of a beach, as ProveTruth says.
func proved(b wind.Beach) [][]int {
	var out [][]int
	for _, l := range combinations(b.Winds) {
		if wind.ProveTruth(b, l) {
			out = append(out, l)
		}
	}
	return out
}

// P4.6, P2 and P3: what is returned holds in each truth that is proved, and both
// ends are reached.
func TestInEachTruth(t *testing.T) {
	eachTrueBeach(t, func(t *testing.T, b wind.Beach, plan [][]int, rnd *rand.Rand) {
		var played [][][]wind.Hours
		var totals []int
		for _, l := range proved(b) {
			hours := play(t, b, plan, l)
			played = append(played, hours)
			totals = append(totals, totalIn(hours))
		}
		if r := total(t, b, plan); r != to(slices.Min(totals), slices.Max(totals)) {
			t.Errorf("Total of %v, %v: %v, but %v", b, plan, r, totals)
		}
		l := bounds(t, b, plan)
		eachSpot(b, func(p wind.Spot) {
			var calm, good []int
			for _, hours := range played {
				h := hours[p.Row][p.Place]
				if h.Sun != l[p.Row][p.Place].Sun || h.Good > min(h.Sun, h.Calm) {
					t.Errorf("Play of %v, %v, %v: %v", b, plan, p, h)
				}
				calm, good = append(calm, h.Calm), append(good, h.Good)
			}
			if x := l[p.Row][p.Place]; x.Calm != to(slices.Min(calm), slices.Max(calm)) || x.Good != to(slices.Min(good), slices.Max(good)) {
				t.Errorf("Bounds of %v, %v, %v: %v, but %v, %v", b, plan, p, x, calm, good)
			}
		})
		if l := leave(t, b); len(l) != 0 {
			t.Errorf("Leave of %v: %v", b, l)
		}
	})
}

// alone returns the beach of one hour of a beach, after rows that face so.
func alone(b wind.Beach, hour int, face []int) wind.Beach {
	b = copied(b)
	var notes []wind.Note
	for _, n := range b.Notes {
		if n.Hour == hour {
			notes = append(notes, note(0, n.From))
		}
	}
	b.Last, b.Face, b.Sun, b.Winds, b.Notes = 0, slices.Clone(face), b.Sun[hour:hour+1], b.Winds[hour:hour+1], notes
	return b
}

// P4.6 and P3: a place is sheltered always, or never, if it is so in each truth
// of the hour alone.
func TestCalmInEachTruth(t *testing.T) {
	eachTrueBeach(t, func(t *testing.T, b wind.Beach, plan [][]int, rnd *rand.Rand) {
		for hour := range b.Last + 1 {
			x, rows := alone(b, hour, b.Face), plan[hour:hour+1]
			met := map[wind.Spot]map[int]bool{}
			eachSpot(b, func(p wind.Spot) { met[p] = map[int]bool{} })
			for _, l := range proved(x) {
				hours := play(t, x, rows, l)
				eachSpot(b, func(p wind.Spot) { met[p][hours[p.Row][p.Place].Calm] = true })
			}
			eachSpot(b, func(p wind.Spot) {
				v := calm(t, b, plan, p, hour)
				if (v == yes) != !met[p][0] || (v == no) != !met[p][1] {
					t.Errorf("Calm of %v, %v, %v, %d: %d, but %v", b, plan, p, hour, v, met[p])
				}
			})
		}
	})
}

// P4.7: what a place has is the sum of what it has in the hours alone, whatever
// the other rows do; so is the sure total, and the work.
func TestHourByHour(t *testing.T) {
	eachTrueBeach(t, func(t *testing.T, b wind.Beach, plan [][]int, rnd *rand.Rand) {
		truths := proved(b)
		l := truths[rnd.Intn(len(truths))]
		sure, worked := 0, 0
		summed := byRow(b, func(p wind.Spot) wind.Hours { return wind.Hours{} })
		for hour, rows := range plan {
			face := b.Face
			if hour > 0 {
				face = plan[hour-1]
			}
			x := alone(b, hour, face)
			other := deep([][]int{rows})
			kept := rnd.Intn(b.Rows)
			for row := range rows {
				if row != kept {
					other[0][row] = rnd.Intn(4)
				}
			}
			one := play(t, x, [][]int{rows}, l[hour:hour+1])
			if !slices.Equal(play(t, x, other, l[hour:hour+1])[kept], one[kept]) {
				t.Errorf("Play of %v, %v: the row %d, and others, %v", x, rows, kept, other)
			}
			eachSpot(b, func(p wind.Spot) {
				h, add := &summed[p.Row][p.Place], one[p.Row][p.Place]
				h.Sun, h.Calm, h.Good = h.Sun+add.Sun, h.Calm+add.Calm, h.Good+add.Good
			})
			sure += leastGood(t, x, rows)
			worked += work(t, x, [][]int{rows})
		}
		if hours := play(t, b, plan, l); !equal(hours, summed) {
			t.Errorf("Play of %v, %v, %v: %v, hour by hour %v", b, plan, l, hours, summed)
		}
		if r, n := total(t, b, plan), work(t, b, plan); r.Lo != sure || n != worked {
			t.Errorf("Total, Work of %v, %v: %v, %d, hour by hour %d, %d", b, plan, r, n, sure, worked)
		}
	})
}

// leastGood returns the minimum of the good places of a beach with one hour, for
// any wind of a truth.
func leastGood(t *testing.T, b wind.Beach, rows []int) int {
	t.Helper()
	var all []int
	for _, l := range proved(b) {
		all = append(all, totalIn(play(t, b, [][]int{rows}, l)))
	}
	return slices.Min(all)
}

// P4.8 and P5: no plan with at most as much work has a greater sure total.
func TestNoBetterPlan(t *testing.T) {
	eachSmallBeach(t, func(t *testing.T, b wind.Beach, rnd *rand.Rand) {
		allowed := rnd.Intn(20)
		_, n := best(t, b, allowed)
		for _, other := range plansOf(b) {
			if work(t, b, other) <= allowed && (total(t, b, other).Lo > n || wind.ProveTotal(b, other, allowed, n+1)) {
				t.Errorf("Best of %v for %d: %d, but %v", b, allowed, n, other)
				return
			}
		}
	})
}

// P4.8 and P5: the same of larger beaches, of which some plans are tried; the
// best total with more work, and in each truth.
func TestMoreWork(t *testing.T) {
	met := 0
	eachTrueBeach(t, func(t *testing.T, b wind.Beach, plan [][]int, rnd *rand.Rand) {
		tried := [][][]int{plan, somePlan(rnd, b), somePlan(rnd, b), somePlan(rnd, b)}
		truths := proved(b)
		last := 0
		for allowed := 0; allowed <= api.MaxWindWork; allowed += 9 {
			plan, n := best(t, b, allowed)
			if n < last {
				t.Errorf("Best of %v for %d: %d, with less work %d", b, allowed, n, last)
			}
			last = n
			if work(t, b, plan) > allowed || !wind.ProveTotal(b, plan, allowed, n) || total(t, b, plan).Lo != n {
				t.Errorf("Best of %v for %d: %v, %d", b, allowed, plan, n)
			}
			for _, l := range truths[:min(len(truths), 10)] {
				if totalIn(play(t, b, plan, l)) < n {
					t.Errorf("Best of %v for %d: %v, %d, but less in %v", b, allowed, plan, n, l)
				}
			}
			for _, other := range tried {
				if work(t, b, other) <= allowed {
					met++
					if total(t, b, other).Lo > n {
						t.Errorf("Best of %v for %d: %d, but %v", b, allowed, n, other)
					}
				}
			}
		}
	})
	atLeast(t, met, 1000, "other plans with at most as much work")
}

// noFewer wants that in the second beach no place has fewer sheltered or good
// hours, and that the best total is not less.
func noFewer(t *testing.T, a, b wind.Beach, plan [][]int, rnd *rand.Rand) {
	t.Helper()
	for _, l := range combinations(a.Winds) {
		before, then := play(t, a, plan, l), play(t, b, plan, l)
		eachSpot(a, func(p wind.Spot) {
			x, y := before[p.Row][p.Place], then[p.Row][p.Place]
			if y.Calm < x.Calm || y.Good < x.Good || y.Sun != x.Sun {
				t.Errorf("Play of %v, %v, %v, %v: %v, of %v: %v", a, plan, l, p, x, b, y)
			}
		})
		if rnd.Intn(10) == 0 {
			break
		}
	}
	allowed := rnd.Intn(api.MaxWindWork + 1)
	_, m := best(t, a, allowed)
	if _, n := best(t, b, allowed); n < m {
		t.Errorf("Best of %v for %d: %d, of %v: %d", a, allowed, m, b, n)
	}
}

// P4.9: one more break.
func TestOneMoreBreak(t *testing.T) {
	met := 0
	eachTrueBeach(t, func(t *testing.T, a wind.Beach, plan [][]int, rnd *rand.Rand) {
		if len(a.Breaks) == api.MaxWindBreaks {
			return
		}
		b := copied(a)
		b.Breaks = append(b.Breaks, someSpot(rnd, a))
		noFewer(t, a, b, plan, rnd)
		if !equal(bounds(t, a, plan), bounds(t, b, plan)) {
			met++
		}
	})
	atLeast(t, met, 50, "breaks that shelter")
}

// P4.9: a greater Reach.
func TestGreaterReach(t *testing.T) {
	met := 0
	eachTrueBeach(t, func(t *testing.T, a wind.Beach, plan [][]int, rnd *rand.Rand) {
		for reach := a.Reach + 1; reach <= api.MaxWindReach; reach++ {
			b := copied(a)
			b.Reach = reach
			noFewer(t, a, b, plan, rnd)
			if !equal(bounds(t, a, plan), bounds(t, b, plan)) {
				met++
			}
		}
	})
	atLeast(t, met, 30, "reaches that shelter")
}

// P4.10: rows with their backs to the wind, and beaches without breaks.
func TestBackToTheWind(t *testing.T) {
	met := map[bool]int{}
	eachTrueBeach(t, func(t *testing.T, b wind.Beach, plan [][]int, rnd *rand.Rand) {
		open, flat := copied(b), copied(b)
		open.Breaks, flat.Reach = nil, 0
		for hour := range b.Last + 1 {
			for _, from := range b.Winds[hour] {
				rows := plan[hour : hour+1]
				x, y, z := alone(b, hour, b.Face), alone(open, hour, b.Face), alone(flat, hour, b.Face)
				some, bare, near := play(t, x, rows, []int{from}), play(t, y, rows, []int{from}), play(t, z, rows, []int{from})
				eachSpot(b, func(p wind.Spot) {
					back := isOpposite(rows[0][p.Row], from)
					met[back]++
					if back && some[p.Row][p.Place].Calm != 1 || (bare[p.Row][p.Place].Calm == 1) != back || (near[p.Row][p.Place].Calm == 1) != back {
						t.Errorf("Play of %v, %v, a wind from %d: %v, without breaks %v, %v", x, rows, from, some, bare, near)
					}
				})
			}
		}
		for _, x := range []wind.Beach{open, flat} {
			for _, row := range bounds(t, x, plan) {
				if len(slices.Compact(row)) != 1 {
					t.Errorf("Bounds of %v, %v: %v", x, plan, row)
				}
			}
		}
	})
	atLeast(t, met[true], 500, "places with their backs to the wind")
	atLeast(t, met[false], 500, "places without")
}

// wider wants that in the second beach no bounds are narrower than in the first
// one, and the best total is not greater; both have a truth.
func wider(t *testing.T, a, b wind.Beach, plan [][]int, rnd *rand.Rand) {
	t.Helper()
	then := bounds(t, b, plan)
	for row, list := range bounds(t, a, plan) {
		for place, x := range list {
			if y := then[row][place]; y.Sun != x.Sun || !inside(x.Calm, y.Calm) || !inside(x.Good, y.Good) {
				t.Errorf("Bounds of %v, %v, %d, %d: %v, of %v: %v", a, plan, row, place, x, b, y)
			}
		}
	}
	if r, s := total(t, a, plan), total(t, b, plan); !inside(r, s) {
		t.Errorf("Total of %v, %v: %v, of %v: %v", a, plan, r, b, s)
	}
	for hour := range a.Last + 1 {
		eachSpot(a, func(p wind.Spot) {
			if v := calm(t, b, plan, p, hour); v != may && calm(t, a, plan, p, hour) != v {
				t.Errorf("Calm of %v, %v, %v, %d: %d, but not of %v", b, plan, p, hour, v, a)
			}
		})
	}
	allowed := rnd.Intn(40)
	_, m := best(t, a, allowed)
	if _, n := best(t, b, allowed); n > m {
		t.Errorf("Best of %v for %d: %d, of %v: %d", a, allowed, m, b, n)
	}
}

// P4.11: one more note.
func TestOneMoreNote(t *testing.T) {
	kept, grown := 0, 0
	eachBeach(t, func(t *testing.T, b wind.Beach, rnd *rand.Rand) {
		if len(b.Notes) == api.MaxWindNotes {
			return
		}
		more := copied(b)
		hour := rnd.Intn(b.Last + 1)
		more.Notes = append(more.Notes, note(hour, b.Winds[hour][rnd.Intn(len(b.Winds[hour]))]))
		l, m := leave(t, b), leave(t, more)
		if len(m) < len(l) || len(m) > len(l)+1 {
			t.Errorf("Leave of %v: %v, of %v: %v", b, l, more, m)
		}
		if len(m) > len(l) {
			grown++
		}
		if hasTruth(t, more) {
			kept++
			wider(t, more, b, somePlan(rnd, b), rnd)
		}
	})
	atLeast(t, kept, 100, "beaches that have a truth with one more note")
	atLeast(t, grown, 30, "smallest sets that are longer with one more note")
}

// P4.12: one more direction among the winds.
func TestOneMoreWind(t *testing.T) {
	kept, fewer := 0, 0
	eachBeach(t, func(t *testing.T, b wind.Beach, rnd *rand.Rand) {
		// One that a note names can make this note right.
		hour, from := rnd.Intn(b.Last+1), rnd.Intn(4)
		if len(b.Notes) > 0 && rnd.Intn(2) == 0 {
			n := b.Notes[rnd.Intn(len(b.Notes))]
			hour, from = n.Hour, n.From
		}
		if slices.Contains(b.Winds[hour], from) {
			return
		}
		more := copied(b)
		more.Winds[hour] = append(more.Winds[hour], from)
		slices.Sort(more.Winds[hour])
		l, m := leave(t, b), leave(t, more)
		if len(m) > len(l) {
			t.Errorf("Leave of %v: %v, of %v: %v", b, l, more, m)
		}
		if len(m) < len(l) {
			fewer++
		}
		if hasTruth(t, b) {
			kept++
			wider(t, b, more, somePlan(rnd, b), rnd)
		}
	})
	atLeast(t, kept, 100, "beaches that have a truth")
	atLeast(t, fewer, 20, "smallest sets that are shorter with one more direction")
}

// mirrored returns the directions with east and west exchanged.
func mirrored(list []int) []int {
	var out []int
	for _, direction := range list {
		switch direction {
		case east:
			direction = west
		case west:
			direction = east
		}
		out = append(out, direction)
	}
	return out
}

// P4.13: east and west are exchanged.
func TestMirror(t *testing.T) {
	eachTrueBeach(t, func(t *testing.T, a wind.Beach, plan [][]int, rnd *rand.Rand) {
		b := copied(a)
		b.Face, b.Sun = mirrored(a.Face), mirrored(a.Sun)
		for hour, l := range a.Winds {
			b.Winds[hour] = mirrored(l)
			slices.Sort(b.Winds[hour])
		}
		for i, n := range a.Notes {
			b.Notes[i].From = mirrored([]int{n.From})[0]
		}
		for i, p := range a.Breaks {
			b.Breaks[i].Place = a.Places - 1 - p.Place
		}
		var other [][]int
		for _, rows := range plan {
			other = append(other, mirrored(rows))
		}
		for _, l := range proved(a) {
			x, y := play(t, a, plan, l), play(t, b, other, mirrored(l))
			for _, row := range y {
				slices.Reverse(row)
			}
			if !equal(x, y) {
				t.Errorf("Play of %v, %v, %v: %v, in the mirror %v", a, plan, l, x, y)
			}
		}
		if r, s := total(t, a, plan), total(t, b, other); r != s {
			t.Errorf("Total of %v, %v: %v, in the mirror %v", a, plan, r, s)
		}
		if m, n := work(t, a, plan), work(t, b, other); m != n {
			t.Errorf("Work of %v, %v: %d, in the mirror %d", a, plan, m, n)
		}
		allowed := rnd.Intn(40)
		_, m := best(t, a, allowed)
		if _, n := best(t, b, allowed); m != n {
			t.Errorf("Best of %v for %d: %d, in the mirror %d", a, allowed, m, n)
		}
	})
}

// P4.14 and P6: the notes before the first wrong one, and with it.
func TestNotesUpToTheFirstWrongOne(t *testing.T) {
	met := 0
	eachBeach(t, func(t *testing.T, b wind.Beach, rnd *rand.Rand) {
		n, e := wind.First(b)
		if (e == api.ErrNone) != hasTruth(t, b) {
			t.Errorf("First of %v: %v", b, e)
		}
		if e != api.OK {
			return
		}
		met++
		if !hasTruth(t, upTo(b, n)) || hasTruth(t, upTo(b, n+1)) {
			t.Errorf("First of %v: %d", b, n)
		}
	})
	atLeast(t, met, 100, "beaches with a first wrong note")
}

// P4.15, P5 and P6: no set before the smallest one can be left out.
func TestSmallestSet(t *testing.T) {
	met := 0
	eachBeach(t, func(t *testing.T, b wind.Beach, rnd *rand.Rand) {
		l := leave(t, b)
		if !hasTruth(t, without(b, l)) {
			t.Errorf("Leave of %v: %v, but there is no truth without it", b, l)
		}
		for _, other := range subsets(len(b.Notes)) {
			if slices.Equal(other, l) {
				break
			}
			met++
			if hasTruth(t, without(b, other)) {
				t.Errorf("Leave of %v: %v, but there is a truth without %v", b, l, other)
			}
		}
	})
	atLeast(t, met, 200, "sets before the smallest one")
}

// P7: notes, and breaks, in any order.
func TestAnyOrder(t *testing.T) {
	eachBeach(t, func(t *testing.T, a wind.Beach, rnd *rand.Rand) {
		b := copied(a)
		rnd.Shuffle(len(b.Notes), func(i, j int) { b.Notes[i], b.Notes[j] = b.Notes[j], b.Notes[i] })
		rnd.Shuffle(len(b.Breaks), func(i, j int) { b.Breaks[i], b.Breaks[j] = b.Breaks[j], b.Breaks[i] })
		if l, m := leave(t, a), leave(t, b); len(l) != len(m) {
			t.Errorf("Leave of %v: %v, of %v: %v", a, l, b, m)
		}
		if hasTruth(t, a) != hasTruth(t, b) {
			t.Errorf("only one has a truth: %v, %v", a, b)
			return
		}
		if hasTruth(t, a) {
			plan, seed := somePlan(rnd, a), rnd.Int63()
			wider(t, a, b, plan, rand.New(rand.NewSource(seed)))
			wider(t, b, a, plan, rand.New(rand.NewSource(seed)))
		}
	})
}

// R3: nil and a list without elements.
func TestNilIsEmpty(t *testing.T) {
	a, b := oneHour(1, 1, 1), oneHour(1, 1, 1)
	a.Breaks, a.Notes, b.Breaks, b.Notes = nil, nil, []wind.Spot{}, []wind.Note{}
	for _, x := range []wind.Beach{a, b} {
		if l := play(t, x, [][]int{{2}}, []int{0}); !equal(l, [][]wind.Hours{hours(1, 1, 1)}) {
			t.Errorf("Play of %v: %v", x, l)
		}
		if l := leave(t, x); len(l) != 0 {
			t.Errorf("Leave of %v: %v", x, l)
		}
		expect(t, finding, x, asked{}, api.ErrNone)
		for _, y := range []asked{{}, {plan: [][]int{}, truth: []int{}}, {plan: [][]int{{}}}, {plan: [][]int{nil}}} {
			for _, c := range planned() {
				expect(t, c, x, y, api.ErrRange)
			}
			if wind.ProveTruth(x, y.truth) || wind.ProveTotal(x, y.plan, 9, 0) {
				t.Errorf("proved: %v, %v", x, y)
			}
		}
	}
	b.Winds = [][]int{{}}
	if e := wind.CheckBeach(b); e != api.ErrArg {
		t.Errorf("CheckBeach of %v: %v", b, e)
	}
}

// R4: arguments are not written to, also not behind their ends.
func TestArgumentsAreKept(t *testing.T) {
	whole := example(note(0, 3), note(1, 3), note(1, 0), note(1, 3), note(9, 9))
	whole.Face, whole.Sun = append(whole.Face, 77), append(whole.Sun, 77)
	whole.Winds[1] = append(whole.Winds[1], 77)
	whole.Winds = append(whole.Winds, []int{77})
	whole.Breaks = append(whole.Breaks, spot(1, 1), spot(77, 77))
	plan, truth := [][]int{{2, 2, 77}, {3, 3, 77}, {77}}, []int{3, 0, 77}
	kept, keptPlan, keptTruth := copied(whole), deep(plan), slices.Clone(truth)
	for notes := range 5 {
		b := whole
		b.Face, b.Sun, b.Winds, b.Breaks, b.Notes = b.Face[:2], b.Sun[:2], [][]int{b.Winds[0], b.Winds[1][:2]}, b.Breaks[:2], b.Notes[:notes]
		cut := [][]int{plan[0][:2], plan[1][:2]}
		callAll(b, asked{cut, truth[:2], spot(1, 1), 1, 20})
		if !equal(b.Winds, [][]int{{3}, {0, 3}}) || !equal(cut, turn()) {
			t.Errorf("the winds became %v, the plan %v", b.Winds, cut)
		}
	}
	if !slices.Equal(whole.Face, kept.Face) || !slices.Equal(whole.Sun, kept.Sun) || !equal(whole.Winds, kept.Winds) || !slices.Equal(whole.Breaks, kept.Breaks) || !slices.Equal(whole.Notes, kept.Notes) {
		t.Errorf("%v became %v", kept, whole)
	}
	if !equal(plan, keptPlan) || !slices.Equal(truth, keptTruth) {
		t.Errorf("%v, %v became %v, %v", keptPlan, keptTruth, plan, truth)
	}
}

// expectApart wants that no two rows of a result share memory.
func expectApart[T comparable](t *testing.T, name string, list [][]T, odd T) {
	t.Helper()
	var want [][]T
	for _, row := range list {
		want = append(want, append(slices.Clone(row), odd, odd))
	}
	for i, row := range list {
		list[i] = append(row, odd, odd)
	}
	if !equal(list, want) {
		t.Errorf("rows of %s share memory: %v", name, list)
	}
	for _, row := range list {
		for i := range row {
			row[i] = odd
		}
	}
}

// R4: results are in memory of their own, also behind their ends.
func TestResultsAreApart(t *testing.T) {
	b, plan, truth := example(note(1, 3), note(1, 0)), stay(), []int{3, 0}
	expectApart(t, "Play", play(t, b, plan, truth), wind.Hours{Sun: 77})
	left := leave(t, b)
	left[0] = 77
	b.Notes = nil
	expectApart(t, "Bounds", bounds(t, b, plan), wind.Bound{Sun: 77})
	for work := range 12 {
		found, _ := best(t, b, work)
		expectApart(t, "Best", found, 77)
		again, n := best(t, b, work)
		if !wind.ProveTotal(b, again, work, n) {
			t.Errorf("Best is kept from call to call: %v", again)
		}
	}
	clean := example()
	if !slices.Equal(b.Face, clean.Face) || !slices.Equal(b.Sun, clean.Sun) || !equal(b.Winds, clean.Winds) || !slices.Equal(b.Breaks, clean.Breaks) || !equal(plan, stay()) || !slices.Equal(truth, []int{3, 0}) {
		t.Errorf("a result shares memory with an argument: %v, %v, %v", b, plan, truth)
	}
	if l := leave(t, example(note(1, 3), note(1, 0))); !slices.Equal(l, []int{0}) {
		t.Errorf("Leave is kept from call to call: %v", l)
	}
}

// A call with equal arguments returns equal results.
func TestAgain(t *testing.T) {
	eachTrueBeach(t, func(t *testing.T, b wind.Beach, plan [][]int, rnd *rand.Rand) {
		if !equal(bounds(t, b, plan), bounds(t, copied(b), deep(plan))) {
			t.Errorf("Bounds of %v, %v", b, plan)
		}
		allowed := rnd.Intn(api.MaxWindWork + 1)
		l, m := best(t, b, allowed)
		k, n := best(t, copied(b), allowed)
		if !equal(l, k) || m != n {
			t.Errorf("Best of %v for %d: %v, %d and %v, %d", b, allowed, l, m, k, n)
		}
	})
}
