package seat_test

import (
	"math/rand"
	"slices"
	"testing"

	"foreshore/api"
	"foreshore/seat"
	"foreshore/wind"
)

// P5.7, P2 and P3: what is returned holds in each truth, and both ends are
// reached.
func TestInEachTruth(t *testing.T) {
	eachSeated(t, func(t *testing.T, c seat.Case, seats []wind.Spot, rnd *rand.Rand) {
		sure, places := sureOf(c), runs(c, seats)
		played := make([][]int, len(seats))
		for _, l := range truthsOf(c) {
			for i, n := range play(t, c, seats, l) {
				played[i] = append(played[i], n)
			}
		}
		v := content(t, c, seats)
		for i, r := range bounds(t, c, seats) {
			if r != to(slices.Min(played[i]), slices.Max(played[i])) || r.Lo < sunOf(sure, places[i:i+1]) {
				t.Errorf("Bounds of %v, %v: %v, but %v", c, seats, r, played[i])
			}
			// Who has fewer hours than are wanted is not content.
			if f := c.Families[i]; v[i] == yes && r.Lo < f.Size*f.Good || v[i] != no && r.Hi < f.Size*f.Good {
				t.Errorf("Bounds, Content of %v, %v: %v, %d", c, seats, r, v[i])
			}
		}
		if seat.ProveSeats(c, seats, 0, 99) != all(v, func(v int) bool { return v == yes }) {
			t.Errorf("Content of %v, %v: %v", c, seats, v)
		}
	})
}

func all[T any](list []T, holds func(T) bool) bool {
	return !slices.ContainsFunc(list, func(x T) bool { return !holds(x) })
}

// P5.7 and P3: by the best seating each family is content always.
func TestContentInTheBestSeating(t *testing.T) {
	met := 0
	eachCase(t, func(t *testing.T, c seat.Case, rnd *rand.Rand) {
		seats, s := found(t, c)
		if !s.ok {
			return
		}
		sure := 0
		for i, v := range content(t, c, seats) {
			if v != yes {
				t.Errorf("Content of %v, %v: the family %d, %d", c, seats, i, v)
			}
			met += c.Families[i].Good
		}
		for _, r := range bounds(t, c, seats) {
			sure += r.Lo
		}
		if sure < s.sun {
			t.Errorf("Best of %v: %v, %v, but %d", c, seats, s, sure)
		}
	})
	atLeast(t, met, 200, "hours that are wanted")
}

// allSeats returns all lists of first places.
func allSeats(c seat.Case) [][]wind.Spot {
	var spots []wind.Spot
	eachSpot(c, func(p wind.Spot) { spots = append(spots, p) })
	return combinations(slices.Repeat([][]wind.Spot{spots}, len(c.Families)))
}

// P5.8 and P5: no allowed seating has more sun, or the same and fewer chairs to
// be carried.
func TestNoBetterSeating(t *testing.T) {
	met := 0
	eachCase(t, func(t *testing.T, c seat.Case, rnd *rand.Rand) {
		tried := allSeats(c)
		if len(tried) > 250 {
			return
		}
		s, some := best(t, c), false
		for _, seats := range tried {
			some = some || seat.ProveSeats(c, seats, 0, 99)
			if s.ok && (seat.ProveSeats(c, seats, s.sun+1, 99) || seat.ProveSeats(c, seats, s.sun, s.carried-1)) {
				t.Errorf("Best of %v: %v, but %v", c, s, seats)
			}
		}
		if some != s.ok {
			t.Errorf("Best of %v: %v", c, s)
		}
		met += len(tried)
	})
	atLeast(t, met, 10000, "seatings that are tried")
}

// P5.9: one family more.
func TestOneFamilyMore(t *testing.T) {
	met, grown := 0, 0
	eachCase(t, func(t *testing.T, more seat.Case, rnd *rand.Rand) {
		if len(more.Families) == 0 {
			return
		}
		added := rnd.Intn(len(more.Families))
		c := without(more, added)
		seats, s := found(t, more)
		r := best(t, c)
		if s.ok {
			met++
			others := slices.Delete(runs(more, seats), added, added+1)
			if !r.ok || sunOf(sureOf(more), others) > r.sun {
				t.Errorf("Best of %v: %v, %v, without the family %d: %v", more, seats, s, added, r)
			}
		}
		l, m := leave(t, c), leave(t, more)
		if len(m) < len(l) || len(m) > len(l)+1 {
			t.Errorf("Leave of %v: %v, without the family %d: %v", more, m, added, l)
		}
		grown += len(m) - len(l)
	})
	atLeast(t, met, 300, "cases with an allowed seating")
	atLeast(t, grown, 200, "families who have to be sent away")
}

// noWorse wants that the best seatings of the second case have no less sun, and
// that no more families have to be sent away.
func noWorse(t *testing.T, a, b seat.Case) {
	t.Helper()
	r, s := best(t, a), best(t, b)
	if r.ok && (!s.ok || s.sun < r.sun) {
		t.Errorf("Best of %v: %v, of %v: %v", a, r, b, s)
	}
	if l, m := leave(t, a), leave(t, b); len(m) > len(l) {
		t.Errorf("Leave of %v: %v, of %v: %v", a, l, b, m)
	}
}

// P5.10: a smaller Good, no dog, and not shy.
func TestLessWanted(t *testing.T) {
	met, better := 0, 0
	eachCase(t, func(t *testing.T, c seat.Case, rnd *rand.Rand) {
		before := best(t, c)
		for i, f := range c.Families {
			for good := range f.Good {
				b := copied(c)
				b.Families[i].Good = good
				noWorse(t, c, b)
				met++
			}
			for _, x := range []seat.Family{{Dog: f.Dog}, {Shy: f.Shy}, {}} {
				b := copied(c)
				b.Families[i].Dog, b.Families[i].Shy = x.Dog, x.Shy
				noWorse(t, c, b)
				if before != best(t, b) {
					better++
				}
			}
		}
	})
	atLeast(t, met, 300, "smaller numbers of hours")
	atLeast(t, better, 20, "cases that are better without a dog, or shyness")
}

// P5.11: one more break.
func TestOneMoreBreak(t *testing.T) {
	met, better := 0, 0
	eachCase(t, func(t *testing.T, c seat.Case, rnd *rand.Rand) {
		if len(c.Beach.Breaks) == api.MaxWindBreaks {
			return
		}
		s := best(t, c)
		most, n, e := seat.Break(c)
		if s.ok && (e != api.OK || n < s.sun) {
			t.Errorf("Break of %v: %v, %d, %v, but Best %v", c, most, n, e, s)
		}
		eachSpot(c, func(p wind.Spot) {
			r := best(t, sheltered(c, p))
			if r.ok && (e != api.OK || r.sun > n) || s.ok && (!r.ok || r.sun < s.sun) {
				t.Errorf("Best of %v: %v, with a break at %v: %v; Break: %d, %v", c, s, p, r, n, e)
			}
		})
		if e == api.OK {
			met++
			if r := best(t, sheltered(c, most)); r.sun != n || !r.ok {
				t.Errorf("Break of %v: %v, %d, but Best %v", c, most, n, r)
			}
			if n > s.sun {
				better++
			}
		}
	})
	atLeast(t, met, 500, "best spots")
	atLeast(t, better, 100, "breaks that are of use")
}

// P5.12, P5 and P6: no set before the smallest one can be sent away.
func TestSmallestSet(t *testing.T) {
	met := 0
	eachCase(t, func(t *testing.T, c seat.Case, rnd *rand.Rand) {
		l := leave(t, c)
		if !best(t, without(c, l...)).ok {
			t.Errorf("Leave of %v: %v, but the others cannot be seated", c, l)
		}
		for _, other := range subsets(len(c.Families)) {
			if slices.Equal(other, l) {
				break
			}
			met++
			if best(t, without(c, other...)).ok {
				t.Errorf("Leave of %v: %v, but %v can be sent away", c, l, other)
			}
		}
	})
	atLeast(t, met, 500, "sets before the smallest one")
}

// P5.13: the others can be seated without a family that can be parted, and
// somebody of it less.
func TestParted(t *testing.T) {
	met := 0
	eachCase(t, func(t *testing.T, c seat.Case, rnd *rand.Rand) {
		if best(t, c).ok {
			expect(t, parting, c, asked{}, api.ErrNone)
			return
		}
		for _, i := range part(t, c) {
			met++
			if c.Families[i].Size == 1 || !best(t, without(c, i)).ok {
				t.Errorf("Part of %v: %d", c, i)
			}
			fewer := copied(c)
			fewer.Families[i].Size /= 2
			if !best(t, fewer).ok {
				t.Errorf("Part of %v: %d, but half of it cannot be seated", c, i)
			}
		}
	})
	atLeast(t, met, 30, "families that can be parted")
}

// P5.5: a family of two that can be parted can be seated as two families, if it
// has no dog, or is not shy; and the other way round.
func TestPartedAsTwoFamilies(t *testing.T) {
	met := map[bool]int{}
	eachCase(t, func(t *testing.T, c seat.Case, rnd *rand.Rand) {
		if len(c.Families) == api.MaxSeatFamilies || best(t, c).ok {
			return
		}
		l := part(t, c)
		for i, f := range c.Families {
			if f.Size == 1 || f.Dog && f.Shy {
				continue
			}
			can := false
			for size := 1; size < f.Size; size++ {
				b, half := copied(c), f
				b.Families[i].Size, half.Size = size, f.Size-size
				b.Families = append(b.Families, half)
				can = can || best(t, b).ok
			}
			met[can]++
			if can != slices.Contains(l, i) {
				t.Errorf("Part of %v: %v", c, l)
			}
		}
	})
	atLeast(t, met[true], 20, "families that can be parted")
	atLeast(t, met[false], 100, "families that cannot")
}

// P5.14: no families.
func TestNobody(t *testing.T) {
	eachCase(t, func(t *testing.T, c seat.Case, rnd *rand.Rand) {
		c.Families = nil
		if rnd.Intn(2) == 0 {
			c.Chairs = someChairs(rnd, c.Beach.Rows, c.Beach.Places)
		}
		if seats, s := found(t, c); len(seats) != 0 || s != (score{0, 0, true}) {
			t.Errorf("Best of %v: %v, %v", c, seats, s)
		}
		if !seat.ProveSeats(c, nil, 0, 0) || seat.ProveSeats(c, nil, 1, 0) || seat.ProveSeats(c, nil, 0, -1) {
			t.Errorf("ProveSeats of %v", c)
		}
		if l := leave(t, c); len(l) != 0 {
			t.Errorf("Leave of %v: %v", c, l)
		}
		if l, v := bounds(t, c, nil), content(t, c, nil); len(l) != 0 || len(v) != 0 {
			t.Errorf("Bounds, Content of %v: %v, %v", c, l, v)
		}
		for _, k := range seated() {
			expect(t, k, c, asked{[]wind.Spot{spot(0, 0)}, c.Beach.Winds[0][:1]}, api.ErrRange)
		}
		expect(t, parting, c, asked{}, api.ErrNone)
		p, n, e := seat.Break(c)
		if full := len(c.Beach.Breaks) == api.MaxWindBreaks; p != spot(0, 0) || n != 0 || (e == api.ErrFail) != full || (e == api.OK) == full {
			t.Errorf("Break of %v: %v, %d, %v", c, p, n, e)
		}
	})
}

// mirrored returns the directions with east and west exchanged.
func mirrored(list []int) []int {
	var out []int
	for _, direction := range list {
		if direction == 1 || direction == 3 {
			direction = 4 - direction
		}
		out = append(out, direction)
	}
	return out
}

// mirror returns the case with east and west exchanged.
func mirror(c seat.Case) seat.Case {
	c = copied(c)
	b := &c.Beach
	b.Face, b.Sun = mirrored(b.Face), mirrored(b.Sun)
	for hour, l := range b.Winds {
		b.Winds[hour] = mirrored(l)
		slices.Sort(b.Winds[hour])
		c.Plan[hour] = mirrored(c.Plan[hour])
	}
	for i, n := range b.Notes {
		b.Notes[i].From = mirrored([]int{n.From})[0]
	}
	for i, p := range b.Breaks {
		b.Breaks[i].Place = b.Places - 1 - p.Place
	}
	for _, row := range c.Chairs {
		slices.Reverse(row)
	}
	return c
}

// P5.15: east and west are exchanged.
func TestMirror(t *testing.T) {
	met := 0
	eachCase(t, func(t *testing.T, a seat.Case, rnd *rand.Rand) {
		b := mirror(a)
		if r, s := best(t, a), best(t, b); r != s {
			t.Errorf("Best of %v: %v, in the mirror %v", a, r, s)
		}
		if l, m := leave(t, a), leave(t, b); !slices.Equal(l, m) {
			t.Errorf("Leave of %v: %v, in the mirror %v", a, l, m)
		}
		_, m, e := seat.Break(a)
		if _, n, f := seat.Break(b); m != n || e != f {
			t.Errorf("Break of %v: %d, %v, in the mirror %d, %v", a, m, e, n, f)
		}
		seats := someSeats(rnd, a)
		if !isSeatingOf(a, seats) {
			return
		}
		met++
		other := slices.Clone(seats)
		for i, f := range a.Families {
			other[i].Place = a.Beach.Places - seats[i].Place - f.Size
		}
		if l, m := bounds(t, a, seats), bounds(t, b, other); !slices.Equal(l, m) {
			t.Errorf("Bounds of %v, %v: %v, in the mirror %v", a, seats, l, m)
		}
		if l, m := content(t, a, seats), content(t, b, other); !slices.Equal(l, m) {
			t.Errorf("Content of %v, %v: %v, in the mirror %v", a, seats, l, m)
		}
	})
	atLeast(t, met, 300, "seatings")
}

// P5.16: one chair more.
func TestAnotherChair(t *testing.T) {
	seen, fewer, more := 0, 0, 0
	eachCase(t, func(t *testing.T, a seat.Case, rnd *rand.Rand) {
		p := someSpot(rnd, a)
		if a.Chairs[p.Row][p.Place] {
			return
		}
		b := copied(a)
		b.Chairs[p.Row][p.Place] = true
		noWorse(t, a, b)
		r, s := best(t, a), best(t, b)
		switch {
		case r.ok && s.sun == r.sun && s.carried > r.carried:
			t.Errorf("Best of %v: %v, of %v: %v", a, r, b, s)
		case r.ok && s.carried < r.carried:
			fewer++
		case !r.ok && s.ok:
			more++
		}
		seen++
	})
	atLeast(t, seen, 500, "chairs")
	atLeast(t, fewer, 30, "chairs that need not be carried")
	atLeast(t, more, 10, "chairs that were missing")
}

// P4: the chairs that are carried are no more than there are elsewhere, and not
// more than people.
func TestChairsAddUp(t *testing.T) {
	eachCase(t, func(t *testing.T, c seat.Case, rnd *rand.Rand) {
		seats, s := found(t, c)
		if !s.ok {
			return
		}
		free := map[wind.Spot]bool{}
		eachSpot(c, func(p wind.Spot) { free[p] = c.Chairs[p.Row][p.Place] })
		people, elsewhere := 0, 0
		for _, p := range slices.Concat(runs(c, seats)...) {
			people++
			free[p] = false
		}
		for _, there := range free {
			if there {
				elsewhere++
			}
		}
		if s.carried < 0 || s.carried > min(people, elsewhere) {
			t.Errorf("Best of %v: %v, %v", c, seats, s)
		}
	})
}

// P7: families, notes, and breaks, in any order.
func TestAnyOrder(t *testing.T) {
	eachCase(t, func(t *testing.T, a seat.Case, rnd *rand.Rand) {
		b := copied(a)
		order := rnd.Perm(len(a.Families))
		for i, j := range order {
			b.Families[i] = a.Families[j]
		}
		rnd.Shuffle(len(b.Beach.Notes), func(i, j int) { b.Beach.Notes[i], b.Beach.Notes[j] = b.Beach.Notes[j], b.Beach.Notes[i] })
		rnd.Shuffle(len(b.Beach.Breaks), func(i, j int) { b.Beach.Breaks[i], b.Beach.Breaks[j] = b.Beach.Breaks[j], b.Beach.Breaks[i] })
		if r, s := best(t, a), best(t, b); r != s {
			t.Errorf("Best of %v: %v, of %v: %v", a, r, b, s)
		}
		if l, m := leave(t, a), leave(t, b); len(l) != len(m) {
			t.Errorf("Leave of %v: %v, of %v: %v", a, l, b, m)
		}
		p, m, e := seat.Break(a)
		if q, n, f := seat.Break(b); p != q || m != n || e != f {
			t.Errorf("Break of %v: %v, %d, %v, of %v: %v, %d, %v", a, p, m, e, b, q, n, f)
		}
		if !best(t, a).ok {
			l, m := part(t, a), part(t, b)
			for i, j := range order {
				if slices.Contains(l, j) != slices.Contains(m, i) {
					t.Errorf("Part of %v: %v, of %v: %v", a, l, b, m)
				}
			}
		}
		sameOrder(t, a, b, order, someSeats(rnd, a))
	})
}

// sameOrder wants that the second case, with the families in another order, has
// the same bounds and verdicts of the places, if these are a seating.
func sameOrder(t *testing.T, a, b seat.Case, order []int, seats []wind.Spot) {
	t.Helper()
	if !isSeatingOf(a, seats) {
		return
	}
	other := make([]wind.Spot, len(seats))
	for i, j := range order {
		other[i] = seats[j]
	}
	l, m := bounds(t, a, seats), bounds(t, b, other)
	v, w := content(t, a, seats), content(t, b, other)
	for i, j := range order {
		if l[j] != m[i] || v[j] != w[i] {
			t.Errorf("Bounds, Content of %v, %v: %v, %v, of %v: %v, %v", a, seats, l, v, b, m, w)
		}
	}
}

// R3: nil and a list without elements.
func TestNilIsEmpty(t *testing.T) {
	a, b := sunny(1, 1), sunny(1, 1)
	a.Beach.Breaks, a.Beach.Notes, a.Families = nil, nil, nil
	b.Beach.Breaks, b.Beach.Notes, b.Families = []wind.Spot{}, []wind.Note{}, []seat.Family{}
	for _, c := range []seat.Case{a, b} {
		for _, seats := range [][]wind.Spot{nil, {}} {
			if l := play(t, c, seats, []int{0}); len(l) != 0 {
				t.Errorf("Play of %v: %v", c, l)
			}
			for _, truth := range [][]int{nil, {}} {
				expect(t, playing, c, asked{seats, truth}, api.ErrRange)
			}
			if !seat.ProveSeats(c, seats, 0, 0) {
				t.Errorf("not proved: %v", c)
			}
		}
		if s := best(t, c); s != (score{0, 0, true}) {
			t.Errorf("Best of %v: %v", c, s)
		}
		if p, n, e := seat.Break(c); p != spot(0, 0) || n != 0 || e != api.OK {
			t.Errorf("Break of %v: %v, %d, %v", c, p, n, e)
		}
	}
	b.Chairs = [][]bool{{}}
	if e := seat.CheckCase(b); e != api.ErrArg {
		t.Errorf("CheckCase of %v: %v", b, e)
	}
}

// equal reports whether two lists have the same lists.
func equal[T comparable](a, b [][]T) bool { return slices.EqualFunc(a, b, slices.Equal[[]T]) }

// isSame reports whether two cases are equal.
func isSame(a, b seat.Case) bool {
	return slices.Equal(a.Beach.Face, b.Beach.Face) && slices.Equal(a.Beach.Sun, b.Beach.Sun) && equal(a.Beach.Winds, b.Beach.Winds) &&
		slices.Equal(a.Beach.Breaks, b.Beach.Breaks) && slices.Equal(a.Beach.Notes, b.Beach.Notes) &&
		equal(a.Plan, b.Plan) && equal(a.Chairs, b.Chairs) && slices.Equal(a.Families, b.Families)
}

// R4: arguments are not written to, also not behind their ends.
func TestArgumentsAreKept(t *testing.T) {
	whole := example(family(2, 0, "d"), family(2, 0, "s"), family(1, 1, ""), family(4, 4, "ds"))
	b := &whole.Beach
	b.Face, b.Sun, b.Breaks = append(b.Face, 77), append(b.Sun, 77), append(b.Breaks, spot(77, 77), spot(77, 77))
	b.Winds, b.Notes = [][]int{{3, 77}, {0, 3, 77}, {77}}, []wind.Note{note(1, 3), note(77, 77), note(77, 77)}
	whole.Plan = [][]int{{2, 2, 77}, {3, 3, 77}, {77}}
	whole.Chairs = [][]bool{{true, false, true, true}, {true, true, true, true}, {true}}
	kept := copied(whole)
	for families := range 4 {
		c := whole
		c.Beach.Face, c.Beach.Sun, c.Beach.Breaks, c.Beach.Notes = b.Face[:2], b.Sun[:2], b.Breaks[:1], b.Notes[:families%2]
		c.Beach.Winds = [][]int{b.Winds[0][:1], b.Winds[1][:2]}
		c.Plan = [][]int{whole.Plan[0][:2], whole.Plan[1][:2]}
		c.Chairs = [][]bool{whole.Chairs[0][:3], whole.Chairs[1][:3]}
		c.Families = whole.Families[:families]
		before := copied(c)
		seats, truth := []wind.Spot{spot(1, 0), spot(0, 0), spot(0, 2), spot(77, 77)}, []int{3, 0, 77}
		callAll(c, asked{seats[:families], truth[:2]}, 0, 9)
		if !isSame(c, before) {
			t.Errorf("%v became %v", before, c)
		}
		if !slices.Equal(seats, []wind.Spot{spot(1, 0), spot(0, 0), spot(0, 2), spot(77, 77)}) || !slices.Equal(truth, []int{3, 0, 77}) {
			t.Errorf("the seats became %v, the truth %v", seats, truth)
		}
	}
	if !isSame(whole, kept) {
		t.Errorf("%v became %v", kept, whole)
	}
}

// R4: results are in memory of their own, and no call keeps them.
func TestResultsAreApart(t *testing.T) {
	c := example(family(2, 0, "d"), family(1, 1, ""))
	seats, truth := sitting().seats, sitting().truth
	none := example(family(2, 0, "d"), family(2, 0, "s"), family(1, 1, ""))
	for range 2 {
		where, s := found(t, c)
		if !seat.ProveSeats(c, where, s.sun, s.carried) {
			t.Errorf("Best: %v, %v", where, s)
		}
		l, r, v := play(t, c, seats, truth), bounds(t, c, seats), content(t, c, seats)
		m, p := leave(t, none), part(t, none)
		if !slices.Equal(l, []int{1, 1}) || !slices.Equal(r, []seat.Range{to(0, 1), to(1, 2)}) || !slices.Equal(v, []int{yes, yes}) {
			t.Errorf("Play, Bounds, Content: %v, %v, %v", l, r, v)
		}
		if !slices.Equal(m, []int{0}) || !slices.Equal(p, []int{0, 1}) {
			t.Errorf("Leave, Part: %v, %v", m, p)
		}
		where[0], l[0], r[0], v[0], m[0], p[0] = spot(77, 77), 77, to(77, 77), 77, 77, 77
	}
	if !isSame(c, example(family(2, 0, "d"), family(1, 1, ""))) || !slices.Equal(seats, sitting().seats) || !slices.Equal(truth, sitting().truth) {
		t.Errorf("a result shares memory with an argument: %v, %v, %v", c, seats, truth)
	}
}

// A call with equal arguments returns equal results.
func TestAgain(t *testing.T) {
	eachCase(t, func(t *testing.T, c seat.Case, rnd *rand.Rand) {
		l, r := found(t, c)
		m, s := found(t, copied(c))
		if !slices.Equal(l, m) || r != s {
			t.Errorf("Best of %v: %v, %v and %v, %v", c, l, r, m, s)
		}
		if l, m := leave(t, c), leave(t, copied(c)); !slices.Equal(l, m) {
			t.Errorf("Leave of %v: %v and %v", c, l, m)
		}
	})
}
