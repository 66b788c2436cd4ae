package seat_test

import (
	"math"
	"math/rand"
	"slices"
	"testing"

	"foreshore/api"
	"foreshore/seat"
	"foreshore/wind"
)

const yes, no, may = seat.Always, seat.Never, seat.Perhaps

func TestExamples(t *testing.T) {
	two, seats := example(family(2, 0, "d"), family(1, 1, "")), []wind.Spot{spot(1, 0), spot(0, 1)}
	if e := seat.CheckCase(two); e != api.OK {
		t.Errorf("CheckCase: %v", e)
	}
	if l := play(t, two, seats, []int{3, 0}); !slices.Equal(l, []int{1, 1}) {
		t.Errorf("Play: %v", l)
	}
	if l := bounds(t, two, seats); !slices.Equal(l, []seat.Range{to(0, 1), to(1, 2)}) {
		t.Errorf("Bounds: %v", l)
	}
	if l := content(t, two, seats); !slices.Equal(l, []int{yes, yes}) {
		t.Errorf("Content: %v", l)
	}
	if l := content(t, example(family(2, 0, "d"), family(1, 2, "")), seats); !slices.Equal(l, []int{yes, may}) {
		t.Errorf("Content with Good 2: %v", l)
	}
	if s := best(t, two); s != (score{1, 1, true}) {
		t.Errorf("Best: %v", s)
	}
	three := example(family(2, 0, "d"), family(2, 0, "s"), family(1, 1, ""))
	shy := example(family(2, 0, "d"), family(2, 0, "s"), family(1, 1, "s"))
	if s := best(t, three); s.ok {
		t.Errorf("Best of three: %v", s)
	}
	if l, m := leave(t, three), part(t, three); !slices.Equal(l, []int{0}) || !slices.Equal(m, []int{0, 1}) {
		t.Errorf("Leave, Part of three: %v, %v", l, m)
	}
	if l := part(t, shy); !slices.Equal(l, []int{1}) {
		t.Errorf("Part if the family 2 is shy, too: %v", l)
	}
	if p, n, e := seat.Break(example(family(2, 0, ""))); p != spot(0, 1) || n != 2 || e != api.OK {
		t.Errorf("Break: %v, %d, %v", p, n, e)
	}
}

// What is a seating: places in one row, on the beach, that no two families have,
// and that are not beside a dog if the family is shy; with chairs for all.
func TestWhatIsASeating(t *testing.T) {
	few := sunny(2, 3, family(2, 0, ""), family(1, 0, ""))
	few.Chairs = [][]bool{{false, false, true}, {false, true, false}}
	enough := copied(few)
	enough.Chairs[0][0] = true
	dogs := sunny(2, 5, family(2, 0, "d"), family(2, 0, "s"), family(1, 0, ""))
	both := sunny(1, 5, family(2, 0, "ds"), family(2, 0, "ds"))
	own := sunny(1, 3, family(3, 0, "ds"))
	for _, x := range []struct {
		c     seat.Case
		seats []wind.Spot
		want  api.Errno
	}{
		{own, []wind.Spot{spot(0, 0)}, api.OK},
		{own, []wind.Spot{spot(0, 1)}, api.ErrRange},
		{sunny(2, 3, family(4, 0, "")), []wind.Spot{spot(0, 0)}, api.ErrRange},
		{few, []wind.Spot{spot(0, 0), spot(1, 0)}, api.ErrRange},
		{enough, []wind.Spot{spot(0, 0), spot(1, 0)}, api.OK},
		{enough, []wind.Spot{spot(0, 0), spot(0, 2)}, api.OK},
		{enough, []wind.Spot{spot(0, 0), spot(0, 1)}, api.ErrRange},
		{enough, []wind.Spot{spot(0, 1), spot(0, 1)}, api.ErrRange},
		{enough, []wind.Spot{spot(1, 0), spot(0, 0)}, api.OK},
		{dogs, []wind.Spot{spot(0, 0), spot(0, 2), spot(1, 0)}, api.ErrRange},
		{dogs, []wind.Spot{spot(0, 2), spot(0, 0), spot(1, 0)}, api.ErrRange},
		{dogs, []wind.Spot{spot(0, 0), spot(0, 3), spot(0, 2)}, api.OK},
		{dogs, []wind.Spot{spot(0, 3), spot(0, 0), spot(0, 2)}, api.OK},
		{dogs, []wind.Spot{spot(0, 0), spot(1, 0), spot(0, 2)}, api.OK},
		{dogs, []wind.Spot{spot(0, 3), spot(1, 0), spot(0, 2)}, api.OK},
		{dogs, []wind.Spot{spot(0, 0), spot(1, 2), spot(0, 2)}, api.OK},
		{both, []wind.Spot{spot(0, 0), spot(0, 2)}, api.ErrRange},
		{both, []wind.Spot{spot(0, 0), spot(0, 3)}, api.OK},
		{both, []wind.Spot{spot(0, 3), spot(0, 0)}, api.OK},
		{both, []wind.Spot{spot(0, 3), spot(0, 1)}, api.ErrRange},
		{sunny(1, 2, family(1, 0, "d"), family(1, 0, "d")), []wind.Spot{spot(0, 0), spot(0, 1)}, api.OK},
		{sunny(1, 2, family(1, 0, "s"), family(1, 0, "s")), []wind.Spot{spot(0, 0), spot(0, 1)}, api.OK},
		{sunny(1, 2, family(1, 0, "d"), family(1, 0, "s")), []wind.Spot{spot(0, 0), spot(0, 1)}, api.ErrRange},
		{sunny(1, 2, family(1, 0, "s"), family(1, 0, "d")), []wind.Spot{spot(0, 0), spot(0, 1)}, api.ErrRange},
		{sunny(1, 2, family(1, 0, "ds"), family(1, 0, "")), []wind.Spot{spot(0, 0), spot(0, 1)}, api.OK},
	} {
		for _, k := range []call{playing, bounding, judging} {
			expect(t, k, x.c, asked{x.seats, []int{0}}, x.want)
		}
		if seat.ProveSeats(x.c, x.seats, 0, 99) != (x.want == api.OK) {
			t.Errorf("ProveSeats of %v, %v is not %v", x.c, x.seats, x.want)
		}
	}
}

// turning is a case of one row, with a break in the middle, and a wind that comes
// from the east or from the west: the place on the other side is good.
func turning(l ...seat.Family) seat.Case {
	c := sunny(1, 3, l...)
	c.Beach.Reach, c.Beach.Breaks, c.Beach.Winds = 1, []wind.Spot{spot(0, 1)}, [][]int{{1, 3}}
	return c
}

// P5.1 and P5.2 by hand: the places of a family are good in different truths, so
// the bounds of their sum are not the sums of their bounds, and no truth makes
// the family content.
func TestPlacesThatAreGoodInTurn(t *testing.T) {
	c, seats := turning(family(3, 1, "")), []wind.Spot{spot(0, 0)}
	for _, from := range []int{1, 3} {
		if l := play(t, c, seats, []int{from}); !slices.Equal(l, []int{1}) {
			t.Errorf("Play with a wind from %d: %v", from, l)
		}
	}
	if l, v := bounds(t, c, seats), content(t, c, seats); !slices.Equal(l, []seat.Range{to(1, 1)}) || !slices.Equal(v, []int{no}) {
		t.Errorf("Bounds, Content: %v, %v", l, v)
	}
	pair, apart := turning(family(1, 1, ""), family(1, 0, "")), []wind.Spot{spot(0, 0), spot(0, 2)}
	if l, v := bounds(t, pair, apart), content(t, pair, apart); !slices.Equal(l, []seat.Range{to(0, 1), to(0, 1)}) || !slices.Equal(v, []int{may, yes}) {
		t.Errorf("Bounds, Content of two: %v, %v", l, v)
	}
	pair.Beach.Notes = []wind.Note{note(0, 1)}
	if l, v := bounds(t, pair, apart), content(t, pair, apart); !slices.Equal(l, []seat.Range{to(1, 1), to(0, 0)}) || !slices.Equal(v, []int{yes, yes}) {
		t.Errorf("Bounds, Content with a note: %v, %v", l, v)
	}
	if s := best(t, pair); s != (score{1, 0, true}) {
		t.Errorf("Best with a note: %v", s)
	}
	// Play does not ask about notes.
	if l := play(t, pair, apart, []int{3}); !slices.Equal(l, []int{0, 1}) {
		t.Errorf("Play against a note: %v", l)
	}
	pair.Beach.Notes[0].From = 3
	if l, v := bounds(t, pair, apart), content(t, pair, apart); !slices.Equal(l, []seat.Range{to(0, 0), to(1, 1)}) || !slices.Equal(v, []int{no, yes}) {
		t.Errorf("Bounds, Content with the other note: %v, %v", l, v)
	}
}

// P5.2 by hand: notes of several hours, each for its own one.
func TestBoundsOfSeveralHours(t *testing.T) {
	c, seats := turning(family(1, 1, ""), family(1, 2, "")), []wind.Spot{spot(0, 0), spot(0, 2)}
	c.Beach.Last, c.Beach.Sun, c.Beach.Winds = 2, []int{2, 2, 2}, [][]int{{1, 3}, {1, 3}, {1, 3}}
	c.Plan = [][]int{{2}, {2}, {2}}
	for _, x := range []struct {
		notes []wind.Note
		want  []seat.Range
		v     []int
	}{
		{nil, []seat.Range{to(0, 3), to(0, 3)}, []int{may, may}},
		{[]wind.Note{note(0, 1)}, []seat.Range{to(1, 3), to(0, 2)}, []int{yes, may}},
		{[]wind.Note{note(1, 3)}, []seat.Range{to(0, 2), to(1, 3)}, []int{may, may}},
		{[]wind.Note{note(0, 1), note(2, 1)}, []seat.Range{to(2, 3), to(0, 1)}, []int{yes, no}},
		{[]wind.Note{note(2, 3), note(1, 3)}, []seat.Range{to(0, 1), to(2, 3)}, []int{may, yes}},
		{[]wind.Note{note(2, 1), note(1, 3), note(0, 3), note(2, 1)}, []seat.Range{to(1, 1), to(2, 2)}, []int{yes, yes}},
	} {
		c.Beach.Notes = x.notes
		if l, v := bounds(t, c, seats), content(t, c, seats); !slices.Equal(l, x.want) || !slices.Equal(v, x.v) {
			t.Errorf("Bounds, Content with %v: %v, %v", x.notes, l, v)
		}
	}
}

// shady is a case of one row of five places in two hours, of which only the last
// two are behind a break, and good, in the hour 1; all are good in the hour 0.
func shady(l ...seat.Family) seat.Case {
	c := sunny(1, 5, l...)
	c.Beach.Last, c.Beach.Reach, c.Beach.Breaks = 1, 2, []wind.Spot{spot(0, 2)}
	c.Beach.Sun, c.Beach.Winds, c.Plan = []int{2, 2}, [][]int{{0}, {3}}, [][]int{{2}, {2}}
	return c
}

// P5.3 by hand: the sun counts first, then the chairs that are carried.
func TestBestByHand(t *testing.T) {
	west := shady(family(2, 0, ""))
	west.Chairs = [][]bool{{true, true, true, false, false}}
	wanted := shady(family(3, 1, ""), family(1, 2, ""))
	tight := shady(family(3, 1, "d"), family(1, 2, "s"), family(1, 2, ""))
	none := shady(family(3, 2, ""))
	late := shady(family(1, 1, ""), family(1, 1, ""), family(1, 1, ""))
	late.Chairs = [][]bool{{false, true, false, true, true}}
	for _, x := range []struct {
		c    seat.Case
		want score
	}{
		{shady(), score{0, 0, true}},
		{west, score{4, 2, true}},
		{wanted, score{5 + 1, 0, true}},
		{tight, score{3 + 4, 0, true}},
		{none, score{}},
		{shady(family(2, 2, "")), score{4, 0, true}},
		{shady(family(2, 2, ""), family(1, 2, "")), score{}},
		{late, score{5, 0, true}},
		{shady(family(2, 1, "d"), family(2, 1, "s")), score{2 + 4, 0, true}},
		{shady(family(2, 1, "d"), family(2, 2, "s")), score{2 + 4, 0, true}},
		{shady(family(3, 1, "d"), family(2, 1, "s")), score{}},
		{shady(family(3, 1, ""), family(2, 1, "")), score{7, 0, true}},
	} {
		seats, s := found(t, x.c)
		if s != x.want {
			t.Errorf("Best of %v: %v, %v", x.c, seats, s)
		}
		if seat.ProveSeats(x.c, seats, s.sun, s.carried) != s.ok {
			t.Errorf("ProveSeats of %v, %v, %v", x.c, seats, s)
		}
	}
}

// P5.3: any numbers can be asked about.
func TestProveSeats(t *testing.T) {
	c := shady(family(2, 1, "d"), family(1, 0, ""))
	c.Chairs[0][3] = false
	none := copied(c)
	none.Beach.Notes = []wind.Note{note(0, 1)}
	wish := shady(family(2, 2, ""), family(1, 0, ""))
	for _, x := range []struct {
		c            seat.Case
		seats        []wind.Spot
		sun, carried int
		want         bool
	}{
		{c, []wind.Spot{spot(0, 3), spot(0, 0)}, 5, 1, true},
		{c, []wind.Spot{spot(0, 3), spot(0, 0)}, 6, 1, false},
		{c, []wind.Spot{spot(0, 3), spot(0, 0)}, 5, 0, false},
		{c, []wind.Spot{spot(0, 3), spot(0, 0)}, 0, 2, true},
		{c, []wind.Spot{spot(0, 3), spot(0, 0)}, math.MinInt, math.MaxInt, true},
		{c, []wind.Spot{spot(0, 3), spot(0, 0)}, math.MaxInt, math.MaxInt, false},
		{c, []wind.Spot{spot(0, 3), spot(0, 0)}, math.MinInt, math.MinInt, false},
		{c, []wind.Spot{spot(0, 0), spot(0, 2)}, 3, 0, true},
		{c, []wind.Spot{spot(0, 0), spot(0, 2)}, 3, -1, false},
		{c, []wind.Spot{spot(0, 0), spot(0, 1)}, 0, 9, false},
		{c, []wind.Spot{spot(0, 4), spot(0, 0)}, 0, 9, false},
		{c, []wind.Spot{spot(0, 3)}, 0, 9, false},
		{c, []wind.Spot{spot(0, 3), spot(0, 0), spot(0, 1)}, 0, 9, false},
		{c, nil, 0, 9, false},
		{wish, []wind.Spot{spot(0, 3), spot(0, 0)}, 0, 9, true},
		{wish, []wind.Spot{spot(0, 0), spot(0, 3)}, 0, 9, false},
		{wish, []wind.Spot{spot(0, 2), spot(0, 0)}, 0, 9, false},
		{without(c, 0, 1), nil, 0, 0, true},
		{without(c, 0, 1), nil, 1, 0, false},
		{none, []wind.Spot{spot(0, 3), spot(0, 0)}, 0, 9, false},
		{without(none, 0, 1), nil, 0, 0, false},
		{seat.Case{}, nil, 0, 0, false},
	} {
		if seat.ProveSeats(x.c, x.seats, x.sun, x.carried) != x.want {
			t.Errorf("ProveSeats of %v, %v, %d, %d is not %v", x.c, x.seats, x.sun, x.carried, x.want)
		}
	}
}

// P5.4 and P5.5 by hand: several sets of the same length, sets of several
// families, and partings into one and three, two and two.
func TestLeaveAndPartByHand(t *testing.T) {
	few := sunny(1, 5, family(2, 0, ""), family(1, 0, ""), family(1, 0, ""))
	few.Chairs = [][]bool{{true, true, false, false, false}}
	mid := sunny(3, 3, family(4, 0, "s"), family(1, 0, "d"))
	gap := shady(family(4, 0, ""), family(1, 2, ""))
	gap.Beach.Reach = 1 // Only the place 3 has two sure hours.
	wide := shady(family(2, 2, ""))
	wide.Beach.Winds[1], wide.Beach.Reach, wide.Beach.Breaks = []int{3}, 1, []wind.Spot{spot(0, 0), spot(0, 3)}
	for _, x := range []struct {
		c           seat.Case
		leave, part []int
		e           api.Errno
	}{
		{shady(), nil, nil, api.ErrNone},
		{shady(family(2, 1, "")), nil, nil, api.ErrNone},
		{few, []int{0}, nil, api.OK},
		{without(few, 0), nil, nil, api.ErrNone},
		{without(few, 1), []int{0}, nil, api.OK},
		{shady(family(3, 1, "d"), family(2, 1, "s")), []int{0}, nil, api.OK},
		{shady(family(2, 2, ""), family(1, 1, ""), family(1, 2, "")), []int{0}, nil, api.OK},
		{shady(family(1, 1, ""), family(1, 3, ""), family(2, 3, "")), []int{1, 2}, nil, api.OK},
		{shady(family(1, 3, ""), family(1, 1, ""), family(2, 3, "")), []int{0, 2}, nil, api.OK},
		{shady(family(1, 3, ""), family(1, 4, ""), family(1, 5, "")), []int{0, 1, 2}, nil, api.OK},
		{shady(family(3, 1, ""), family(4, 1, ""), family(4, 1, "")), []int{0, 1}, nil, api.OK},
		{sunny(2, 3, family(4, 0, "")), []int{0}, []int{0}, api.OK},
		{sunny(1, 3, family(4, 0, "")), []int{0}, nil, api.OK},
		{sunny(2, 2, family(4, 0, "")), []int{0}, []int{0}, api.OK},
		{sunny(2, 2, family(3, 0, "")), []int{0}, []int{0}, api.OK},
		{sunny(3, 1, family(2, 0, "")), []int{0}, []int{0}, api.OK},
		{sunny(3, 1, family(3, 0, "")), []int{0}, nil, api.OK},
		{sunny(2, 3, family(4, 1, "ds")), []int{0}, []int{0}, api.OK},
		{sunny(2, 3, family(4, 2, "")), []int{0}, nil, api.OK},
		{sunny(2, 3, family(4, 0, ""), family(1, 0, "")), []int{0}, []int{0}, api.OK},
		{sunny(2, 3, family(4, 0, ""), family(2, 0, "")), []int{0}, []int{0}, api.OK},
		{sunny(2, 3, family(2, 0, ""), family(2, 0, ""), family(2, 0, "")), []int{0}, []int{0, 1, 2}, api.OK},
		{sunny(2, 3, family(4, 0, "d"), family(1, 0, "s")), []int{0}, []int{0}, api.OK},
		{sunny(2, 3, family(4, 0, "d"), family(2, 0, "s")), []int{0}, nil, api.OK},
		{mid, []int{0}, []int{0}, api.OK},
		{gap, []int{0}, []int{0}, api.OK},
		{wide, []int{0}, []int{0}, api.OK},
		{sunny(1, 5, family(2, 0, "d"), family(2, 0, ""), family(1, 0, "s")), nil, nil, api.ErrNone},
		{sunny(1, 4, family(2, 0, "d"), family(1, 0, ""), family(1, 0, "s")), nil, nil, api.ErrNone},
		{sunny(1, 4, family(3, 0, "d"), family(1, 0, "s")), []int{0}, nil, api.OK},
	} {
		if l := leave(t, x.c); !slices.Equal(l, x.leave) {
			t.Errorf("Leave of %v: %v", x.c, l)
		}
		if l, e := seat.Part(x.c); !slices.Equal(l, x.part) || e != x.e {
			t.Errorf("Part of %v: %v, %v", x.c, l, e)
		}
	}
}

// P5.6 by hand: the first one of several spots, spots without a gain, and breaks
// where others are.
func TestBreakByHand(t *testing.T) {
	open := sunny(1, 4, family(1, 0, ""))
	open.Beach.Reach, open.Beach.Winds = 1, [][]int{{3}}
	wish, two, rows := copied(open), copied(open), sunny(3, 2, family(1, 1, ""))
	wish.Families = []seat.Family{family(1, 1, ""), family(1, 0, "")}
	wish.Beach.Breaks = []wind.Spot{spot(0, 1)}
	two.Families, two.Beach.Reach = []seat.Family{family(3, 1, "")}, 3
	rows.Beach.Reach, rows.Beach.Winds = 1, [][]int{{2}}
	east := copied(open)
	east.Beach.Winds = [][]int{{1}}
	nothing := copied(open)
	nothing.Beach.Reach = 0
	for _, x := range []struct {
		c    seat.Case
		want gain
		e    api.Errno
	}{
		{open, gain{spot(0, 0), 1}, api.OK},
		{east, gain{spot(0, 1), 1}, api.OK},
		{wish, gain{spot(0, 0), 2}, api.OK},
		{two, gain{spot(0, 0), 3}, api.OK},
		{rows, gain{spot(1, 0), 1}, api.OK},
		{nothing, gain{spot(0, 0), 0}, api.OK},
		{without(nothing, 0), gain{spot(0, 0), 0}, api.OK},
		{sunny(2, 2, family(2, 1, "")), gain{spot(0, 0), 2}, api.OK},
		{sunny(2, 2, family(2, 2, "")), gain{}, api.ErrShort},
		{sunny(2, 2, family(3, 1, "")), gain{}, api.ErrShort},
	} {
		if p, n, e := seat.Break(x.c); (gain{p, n}) != x.want || e != x.e {
			t.Errorf("Break of %v: %v, %d, %v", x.c, p, n, e)
		}
	}
}

// P5.1: Play of lists of places and of winds that are near to valid ones.
func TestPlayOfManyCases(t *testing.T) {
	met := map[api.Errno]int{}
	eachCase(t, func(t *testing.T, c seat.Case, rnd *rand.Rand) {
		if e := seat.CheckCase(c); e != api.OK {
			t.Errorf("CheckCase of %v: %v", c, e)
		}
		own := combinations(c.Beach.Winds)
		truth := own[rnd.Intn(len(own))]
		for _, seats := range nearSeats(rnd, someSeats(rnd, c)) {
			l, e := seat.Play(c, seats, truth)
			met[e]++
			if !isSeatingOf(c, seats) {
				if e != api.ErrRange || l != nil {
					t.Errorf("Play of %v, %v: %v, %v", c, seats, l, e)
				}
				continue
			}
			var want []int
			good := goodIn(c, truth)
			for _, places := range runs(c, seats) {
				want = append(want, sunOf(good, [][]wind.Spot{places}))
			}
			if !slices.Equal(l, want) || e != api.OK {
				t.Errorf("Play of %v, %v, %v: %v, %v", c, seats, truth, l, e)
			}
			other := slices.Clone(truth)
			other[rnd.Intn(len(other))] = rnd.Intn(6) - 1
			if _, e := seat.Play(c, seats, other); (e == api.OK) != isIn(own, other) {
				t.Errorf("Play of %v, %v, %v: %v", c, seats, other, e)
			}
		}
	})
	atLeast(t, met[api.OK], 1000, "seatings")
	atLeast(t, met[api.ErrRange], 1000, "lists that are no seatings")
}

func isIn(lists [][]int, l []int) bool {
	return slices.ContainsFunc(lists, func(o []int) bool { return slices.Equal(o, l) })
}

// isSeatingOf reports whether the list has the first places of a seating.
func isSeatingOf(c seat.Case, seats []wind.Spot) bool {
	return len(seats) == len(c.Families) && isSeated(c, runs(c, seats))
}

// nearSeats returns lists of which one number, or the length, is another one.
func nearSeats(rnd *rand.Rand, l []wind.Spot) [][]wind.Spot {
	out := [][]wind.Spot{l, append(slices.Clone(l), spot(0, 0)), nil}
	if len(l) == 0 {
		return out
	}
	for _, by := range []int{-1, 1, 2, -3, 5, 256, 1 << 32} {
		row, place := slices.Clone(l), slices.Clone(l)
		row[rnd.Intn(len(l))].Row += by
		place[rnd.Intn(len(l))].Place += by
		out = append(out, row, place)
	}
	return append(out, l[1:])
}

// P5.2: Bounds and Content of seatings, allowed or not.
func TestBoundsOfManyCases(t *testing.T) {
	met, wide := map[int]int{}, 0
	eachSeated(t, func(t *testing.T, c seat.Case, seats []wind.Spot, rnd *rand.Rand) {
		good, places := goodOf(c), runs(c, seats)
		l := bounds(t, c, seats)
		if !slices.Equal(l, sums(c, good, places)) {
			t.Errorf("Bounds of %v, %v: %v", c, seats, l)
		}
		v := content(t, c, seats)
		if !slices.Equal(v, contentOf(c, good, places)) {
			t.Errorf("Content of %v, %v: %v", c, seats, v)
		}
		for i := range v {
			met[v[i]]++
			if l[i].Lo < l[i].Hi {
				wide++
			}
		}
	})
	for _, v := range []int{yes, no, may} {
		atLeast(t, met[v], 200, "verdicts of one kind")
	}
	atLeast(t, wide, 200, "sums that are not known")
}

// P5.3: Best and its proof.
func TestBestOfManyCases(t *testing.T) {
	met := map[bool]int{}
	eachCase(t, func(t *testing.T, c seat.Case, rnd *rand.Rand) {
		seats, s := found(t, c)
		met[s.ok]++
		if s != bestOf(c) {
			t.Errorf("Best of %v: %v, not %v", c, s, bestOf(c))
		}
		if !s.ok {
			return
		}
		if !isSeatingOf(c, seats) || sunOf(sureOf(c), runs(c, seats)) != s.sun || carriedFor(c, runs(c, seats)) != s.carried {
			t.Errorf("Best of %v: %v, %v", c, seats, s)
		}
		if !seat.ProveSeats(c, seats, s.sun, s.carried) || seat.ProveSeats(c, seats, s.sun+1, s.carried) || seat.ProveSeats(c, seats, s.sun, s.carried-1) {
			t.Errorf("ProveSeats of %v, %v, %v", c, seats, s)
		}
	})
	atLeast(t, met[true], 300, "cases with an allowed seating")
	atLeast(t, met[false], 200, "cases without one")
}

// P5.3: ProveSeats of any seatings.
func TestProveSeatsOfManyCases(t *testing.T) {
	met := map[bool]int{}
	eachSeated(t, func(t *testing.T, c seat.Case, seats []wind.Spot, rnd *rand.Rand) {
		sure, places := sureOf(c), runs(c, seats)
		allowed := true
		for i, f := range c.Families {
			allowed = allowed && isContent(f, sure, places[i])
		}
		met[allowed]++
		sun, carried := sunOf(sure, places), carriedFor(c, places)
		if seat.ProveSeats(c, seats, sun, carried) != allowed || seat.ProveSeats(c, seats, sun-1, carried+1) != allowed {
			t.Errorf("ProveSeats of %v, %v, %d, %d is not %v", c, seats, sun, carried, allowed)
		}
		if seat.ProveSeats(c, seats, sun+1, carried) || seat.ProveSeats(c, seats, sun, carried-1) {
			t.Errorf("proved: more than %v, %v, %d, %d", c, seats, sun, carried)
		}
	})
	atLeast(t, met[true], 300, "allowed seatings")
	atLeast(t, met[false], 300, "seatings that are not allowed")
}

// P5.4 and P5.5: Leave and Part.
func TestLeaveAndPartOfManyCases(t *testing.T) {
	lengths, parted := map[int]int{}, 0
	eachCase(t, func(t *testing.T, c seat.Case, rnd *rand.Rand) {
		l := leave(t, c)
		lengths[len(l)]++
		if !slices.Equal(l, leaveOf(c)) {
			t.Errorf("Leave of %v: %v, not %v", c, l, leaveOf(c))
		}
		if len(l) == 0 {
			expect(t, parting, c, asked{}, api.ErrNone)
			return
		}
		m := part(t, c)
		if !slices.Equal(m, partOf(c)) {
			t.Errorf("Part of %v: %v, not %v", c, m, partOf(c))
		}
		parted += len(m)
	})
	for many := range 4 {
		atLeast(t, lengths[many], 15, "smallest sets of one length")
	}
	atLeast(t, parted, 30, "families that can be parted")
}

// P5.6: Break.
func TestBreakOfManyCases(t *testing.T) {
	met, better := map[api.Errno]int{}, 0
	eachCase(t, func(t *testing.T, c seat.Case, rnd *rand.Rand) {
		p, n, e := seat.Break(c)
		met[e]++
		if (e == api.ErrFail) != (len(c.Beach.Breaks) == api.MaxWindBreaks) {
			t.Errorf("Break of %v: %v", c, e)
		}
		if e == api.ErrFail {
			return
		}
		g, ok := breakOf(c)
		if (gain{p, n}) != g || (e == api.OK) != ok || !ok && e != api.ErrShort {
			t.Errorf("Break of %v: %v, %d, %v, not %v", c, p, n, e, g)
		}
		if g.spot != spot(0, 0) {
			better++
		}
	})
	for _, e := range []api.Errno{api.OK, api.ErrFail, api.ErrShort} {
		atLeast(t, met[e], 100, "cases of each kind")
	}
	atLeast(t, better, 100, "best spots that are not the first one")
}

// largest returns a case at all limits, with all winds in all hours.
func largest() seat.Case {
	b := wind.Beach{
		Last: 4, Rows: 3, Places: 5, Reach: 4,
		Face: []int{0, 1, 2}, Sun: []int{0, 1, 2, 3, 2},
		Winds:  slices.Repeat([][]int{{0, 1, 2, 3}}, 5),
		Breaks: []wind.Spot{spot(0, 0), spot(0, 4), spot(2, 0)},
	}
	plan := [][]int{{0, 0, 0}, {1, 1, 1}, {2, 2, 2}, {3, 3, 3}, {2, 2, 0}}
	return seat.Case{Beach: b, Plan: plan, Chairs: sunny(3, 5).Chairs, Families: []seat.Family{family(4, 0, "ds"), family(4, 0, "ds"), family(4, 0, "ds")}}
}

// The largest cases: all limits at once, with 1024 truths.
func TestLargestCase(t *testing.T) {
	c := largest()
	seats := []wind.Spot{spot(0, 0), spot(1, 1), spot(2, 0)}
	good := goodOf(c)
	if len(good) != 1024 {
		t.Fatalf("%d truths", len(good))
	}
	if l := bounds(t, c, seats); !slices.Equal(l, sums(c, good, runs(c, seats))) {
		t.Errorf("Bounds: %v", l)
	}
	if l := content(t, c, seats); !slices.Equal(l, contentOf(c, good, runs(c, seats))) {
		t.Errorf("Content: %v", l)
	}
	if s := best(t, c); s != bestOf(c) {
		t.Errorf("Best: %v, not %v", s, bestOf(c))
	}
	c.Families = []seat.Family{family(4, 1, "ds"), family(4, 1, "ds"), family(4, 1, "ds")}
	c.Beach.Winds = [][]int{{0}, {2}, {0}, {1}, {1}}
	c.Beach.Notes = []wind.Note{note(0, 0), note(1, 2), note(2, 0), note(3, 1), note(4, 1)}
	if s := best(t, c); s != bestOf(c) {
		t.Errorf("Best with notes: %v, not %v", s, bestOf(c))
	}
	if l := leave(t, c); !slices.Equal(l, leaveOf(c)) {
		t.Errorf("Leave: %v", l)
	}
	if g, ok := breakOf(c); ok {
		if p, n, e := seat.Break(c); (gain{p, n}) != g || e != api.OK {
			t.Errorf("Break: %v, %d, %v, not %v", p, n, e, g)
		}
	}
}
