package wind_test

import (
	"math"
	"math/rand"
	"slices"
	"testing"

	"foreshore/api"
	"foreshore/wind"
)

const (
	north, east, south, west = 0, 1, 2, 3

	yes, no, may = wind.Always, wind.Never, wind.Perhaps
)

// hours has those of the places of one row: the sunny, sheltered and good ones
// of each.
func hours(l ...int) []wind.Hours {
	var out []wind.Hours
	for i := 0; i < len(l); i += 3 {
		out = append(out, wind.Hours{Sun: l[i], Calm: l[i+1], Good: l[i+2]})
	}
	return out
}

func bound(sun int, calm, good wind.Range) wind.Bound {
	return wind.Bound{Sun: sun, Calm: calm, Good: good}
}

func TestExamples(t *testing.T) {
	b := example()
	if e := wind.CheckBeach(b); e != api.OK {
		t.Errorf("CheckBeach: %v", e)
	}
	want := [][]wind.Hours{hours(1, 1, 0, 1, 2, 1, 1, 1, 0), hours(1, 1, 0, 1, 1, 0, 1, 1, 0)}
	if l := play(t, b, stay(), []int{3, 0}); !equal(l, want) {
		t.Errorf("Play: %v", l)
	}
	some := bound(1, to(0, 1), to(0, 0))
	bounded := [][]wind.Bound{{some, bound(1, to(2, 2), to(1, 1)), some}, {some, some, some}}
	if l := bounds(t, b, stay()); !equal(l, bounded) {
		t.Errorf("Bounds: %v", l)
	}
	if m, n := work(t, b, stay()), work(t, b, turn()); m != 0 || n != 6 {
		t.Errorf("Work: %d, %d", m, n)
	}
	if r, s := total(t, b, stay()), total(t, b, turn()); r != to(1, 1) || s != to(2, 2) {
		t.Errorf("Total: %v, %v", r, s)
	}
	if v, w := calm(t, b, stay(), spot(0, 1), 0), calm(t, b, stay(), spot(1, 1), 1); v != yes || w != may {
		t.Errorf("Calm: %d, %d", v, w)
	}
	for _, x := range []struct{ work, want int }{{0, 1}, {5, 1}, {6, 2}} {
		if _, n := best(t, b, x.work); n != x.want {
			t.Errorf("Best for %d: %d", x.work, n)
		}
	}
	b = example(note(1, 3))
	if v := calm(t, b, stay(), spot(1, 1), 1); v != no {
		t.Errorf("Calm with the note 0: %d", v)
	}
	b = example(note(1, 3), note(1, 0))
	if n, e := wind.First(b); n != 1 || e != api.OK {
		t.Errorf("First: %d, %v", n, e)
	}
	if l := leave(t, b); !slices.Equal(l, []int{0}) {
		t.Errorf("Leave: %v", l)
	}
}

// oneHour returns a beach of one hour with all winds and a sun from the south.
func oneHour(rows, places, reach int, breaks ...wind.Spot) wind.Beach {
	return wind.Beach{Rows: rows, Places: places, Reach: reach, Face: make([]int, rows), Sun: []int{south}, Winds: [][]int{{0, 1, 2, 3}}, Breaks: breaks}
}

// The fourth example of the document: a row that faces the south has its back to
// a wind from the north.
func TestBackToTheWindByHand(t *testing.T) {
	b := oneHour(1, 1, 0)
	for face, from := range []int{south, west, north, east} {
		for winds := range 4 {
			h := play(t, b, [][]int{{face}}, []int{winds})[0][0]
			if (h.Calm == 1) != (winds == from) || (h.Sun == 1) != (face == south) || h.Good != h.Sun*h.Calm {
				t.Errorf("facing %d, with a wind from %d: %v", face, winds, h)
			}
		}
	}
}

// sheltered returns the spots that are so in the only hour, if each row faces
// the wind.
func sheltered(t *testing.T, b wind.Beach, from int) []wind.Spot {
	t.Helper()
	l := play(t, b, [][]int{slices.Repeat([]int{from}, b.Rows)}, []int{from})
	var out []wind.Spot
	eachSpot(b, func(p wind.Spot) {
		if l[p.Row][p.Place].Calm > 0 {
			out = append(out, p)
		}
	})
	return out
}

// P4.1 by hand: what is behind a break, in each direction and at each distance.
func TestBehindABreak(t *testing.T) {
	long := oneHour(1, 5, 0, spot(0, 4))
	for reach, want := range [][]wind.Spot{nil, {spot(0, 3)}, {spot(0, 2), spot(0, 3)}, {spot(0, 1), spot(0, 2), spot(0, 3)}, {spot(0, 0), spot(0, 1), spot(0, 2), spot(0, 3)}} {
		long.Reach = reach
		if l := sheltered(t, long, east); !slices.Equal(l, want) {
			t.Errorf("Reach %d: %v", reach, l)
		}
	}
	mid, corner := oneHour(3, 3, 1, spot(1, 1)), oneHour(3, 3, 4, spot(0, 0), spot(2, 2))
	for from, want := range [][]wind.Spot{{spot(2, 1)}, {spot(1, 0)}, {spot(0, 1)}, {spot(1, 2)}} {
		if l := sheltered(t, mid, from); !slices.Equal(l, want) {
			t.Errorf("a break in the middle, the wind from %d: %v", from, l)
		}
	}
	for from, want := range [][]wind.Spot{{spot(1, 0), spot(2, 0)}, {spot(2, 0), spot(2, 1)}, {spot(0, 2), spot(1, 2)}, {spot(0, 1), spot(0, 2)}} {
		if l := sheltered(t, corner, from); !slices.Equal(l, want) {
			t.Errorf("breaks in two corners, the wind from %d: %v", from, l)
		}
	}
	row := oneHour(2, 4, 1, spot(0, 0), spot(0, 1), spot(0, 2), spot(0, 3))
	for from, want := range [][]wind.Spot{{spot(1, 0), spot(1, 1), spot(1, 2), spot(1, 3)}, {spot(0, 0), spot(0, 1), spot(0, 2)}, nil, {spot(0, 1), spot(0, 2), spot(0, 3)}} {
		if l := sheltered(t, row, from); !slices.Equal(l, want) {
			t.Errorf("a row of breaks, the wind from %d: %v", from, l)
		}
	}
}

// P4.1 by hand: clouds, and a sun and a shelter that do not come together.
func TestGoodHours(t *testing.T) {
	b := oneHour(1, 1, 0)
	b.Last, b.Sun, b.Winds = 3, []int{-1, south, south, north}, [][]int{{0}, {0}, {2}, {2}}
	if l := play(t, b, [][]int{{2}, {2}, {2}, {0}}, []int{0, 0, 2, 2}); !equal(l, [][]wind.Hours{hours(3, 3, 2)}) {
		t.Errorf("Play: %v", l)
	}
	if l := play(t, b, [][]int{{2}, {0}, {2}, {2}}, []int{0, 0, 2, 2}); !equal(l, [][]wind.Hours{hours(1, 1, 0)}) {
		t.Errorf("Play: %v", l)
	}
}

// P4.2 by hand: turns between all directions, and the most work.
func TestWorkByHand(t *testing.T) {
	for from := range 4 {
		for to := range 4 {
			b := oneHour(1, 3, 0)
			b.Face[0] = from
			if n := work(t, b, [][]int{{to}}); n != 3*quarterTurns(from, to) {
				t.Errorf("Work from %d to %d: %d", from, to, n)
			}
		}
	}
	b := wind.Beach{Last: 4, Rows: 3, Places: 5, Face: []int{0, 1, 2}, Sun: make([]int, 5), Winds: slices.Repeat([][]int{{0}}, 5)}
	for _, x := range []struct {
		plan [][]int
		want int
	}{
		{[][]int{{2, 3, 0}, {0, 1, 2}, {2, 3, 0}, {0, 1, 2}, {2, 3, 0}}, 150},
		{[][]int{{0, 1, 2}, {0, 1, 2}, {0, 1, 2}, {0, 1, 2}, {0, 1, 2}}, 0},
		{[][]int{{3, 1, 2}, {3, 1, 2}, {3, 1, 2}, {3, 1, 2}, {0, 1, 2}}, 10},
		{[][]int{{1, 2, 3}, {2, 3, 0}, {3, 0, 1}, {0, 1, 2}, {1, 2, 3}}, 75},
	} {
		if n := work(t, b, x.plan); n != x.want {
			t.Errorf("Work of %v: %d", x.plan, n)
		}
		if wind.ProveTotal(b, x.plan, x.want-1, 0) || !wind.ProveTotal(b, x.plan, x.want, 0) {
			t.Errorf("ProveTotal of %v for %d", x.plan, x.want)
		}
	}
}

// P4.2 and P4.3 by hand: what is bounded is bounded in all hours together, over
// winds that notes leave; the total is not the sum of the places' bounds.
func TestBoundsByHand(t *testing.T) {
	b := oneHour(1, 3, 1, spot(0, 1))
	b.Winds[0] = []int{east, west}
	want := [][]wind.Bound{{bound(1, to(0, 1), to(0, 1)), bound(1, to(0, 0), to(0, 0)), bound(1, to(0, 1), to(0, 1))}}
	if l, r := bounds(t, b, [][]int{{south}}), total(t, b, [][]int{{south}}); !equal(l, want) || r != to(1, 1) {
		t.Errorf("Bounds, Total: %v, %v", l, r)
	}
	b.Notes = []wind.Note{note(0, west)}
	want = [][]wind.Bound{{bound(1, to(0, 0), to(0, 0)), bound(1, to(0, 0), to(0, 0)), bound(1, to(1, 1), to(1, 1))}}
	if l, r := bounds(t, b, [][]int{{south}}), total(t, b, [][]int{{south}}); !equal(l, want) || r != to(1, 1) {
		t.Errorf("Bounds, Total with a note: %v, %v", l, r)
	}
	b = oneHour(2, 2, 0)
	b.Last, b.Sun, b.Winds = 2, []int{2, 2, 2}, [][]int{{0, 1}, {0}, {0, 1}}
	plan := [][]int{{2, 3}, {2, 2}, {2, 0}}
	row, other := bound(3, to(1, 3), to(1, 3)), bound(1, to(1, 2), to(1, 1))
	if l, r := bounds(t, b, plan), total(t, b, plan); !equal(l, [][]wind.Bound{{row, row}, {other, other}}) || r != to(4, 8) {
		t.Errorf("Bounds, Total of three hours: %v, %v", l, r)
	}
	for hour, want := range []int{may, yes, no} {
		if v := calm(t, b, plan, spot(1, 0), hour); v != want {
			t.Errorf("Calm in the hour %d: %d", hour, v)
		}
	}
}

// P4.4 by hand: turns that are spread over hours, that are done before they are
// of use, and of which not all can be paid.
func TestBestByHand(t *testing.T) {
	two := wind.Beach{Last: 1, Rows: 1, Places: 2, Face: []int{0}, Sun: []int{1, 2}, Winds: [][]int{{3}, {0}}}
	many := wind.Beach{Last: 2, Rows: 2, Places: 1, Face: []int{0, 2}, Sun: []int{-1, 2, 2}, Winds: [][]int{{0, 1, 2, 3}, {0}, {0, 1}}}
	behind := wind.Beach{Rows: 1, Places: 4, Reach: 2, Face: []int{0}, Sun: []int{1}, Winds: [][]int{{0, 1, 3}}, Breaks: []wind.Spot{spot(0, 1)}}
	for _, x := range []struct {
		b          wind.Beach
		work, best int
	}{
		{two, 0, 0}, {two, 1, 0}, {two, 2, 2}, {two, 3, 2}, {two, 4, 4}, {two, 99, 4},
		{many, 0, 1}, {many, 1, 1}, {many, 2, 2}, {many, 99, 2},
		{behind, 99, 0},
	} {
		plan, n := best(t, x.b, x.work)
		if n != x.best || !wind.ProveTotal(x.b, plan, x.work, n) {
			t.Errorf("Best of %v for %d: %v, %d", x.b, x.work, plan, n)
		}
	}
	behind.Winds[0] = []int{1, 3}
	if _, n := best(t, behind, 4); n != 1 {
		t.Errorf("Best with a wind from the east, or from the west: %d", n)
	}
	if _, n := best(t, behind, 3); n != 0 {
		t.Errorf("Best without enough work: %d", n)
	}
	behind.Winds[0] = []int{3}
	if _, n := best(t, behind, 4); n != 4 {
		t.Errorf("Best with a wind from the west: %d", n)
	}
}

// P4.4: a work that is too much for Best can be proved; any total can be asked
// about.
func TestProveTotal(t *testing.T) {
	none, noted := example(note(1, 3), note(1, 0)), example(note(1, 3))
	noted.Sun[1] = east
	for _, x := range []struct {
		b           wind.Beach
		plan        [][]int
		work, total int
		want        bool
	}{
		{example(), turn(), 6, 2, true},
		{example(), turn(), 5, 2, false},
		{example(), turn(), 6, 3, false},
		{example(), turn(), 6, 0, true},
		{example(), turn(), 7, 1, true},
		{example(), turn(), math.MaxInt, math.MinInt, true},
		{example(), turn(), math.MinInt, math.MinInt, false},
		{example(), turn(), math.MaxInt, math.MaxInt, false},
		{example(), turn(), 100, 2, true},
		{example(), stay(), 0, 1, true},
		{example(), stay(), 0, 2, false},
		{example(), stay(), -1, 1, false},
		{example(), nil, 99, 0, false},
		{example(), [][]int{{2, 2}}, 99, 0, false},
		{example(), [][]int{{2, 2}, {2, 4}}, 99, 0, false},
		{noted, [][]int{{2, 2}, {1, 2}}, 3, 4, true},
		{noted, [][]int{{2, 2}, {1, 2}}, 3, 5, false},
		{noted, [][]int{{2, 2}, {1, 2}}, 2, 4, false},
		{none, stay(), 99, 0, false},
		{wind.Beach{}, nil, 99, 0, false},
	} {
		if wind.ProveTotal(x.b, x.plan, x.work, x.total) != x.want {
			t.Errorf("ProveTotal of %v, %v, %d, %d is not %v", x.b, x.plan, x.work, x.total, x.want)
		}
	}
}

// P4.5 by hand: several sets of the same length, notes of winds that cannot be,
// and notes that are false only together.
func TestFirstAndLeave(t *testing.T) {
	for _, x := range []struct {
		b     wind.Beach
		first int
		e     api.Errno
		leave []int
	}{
		{example(), 0, api.ErrNone, nil},
		{example(note(1, 3)), 0, api.ErrNone, nil},
		{example(note(0, 3), note(1, 0), note(0, 3), note(1, 0)), 0, api.ErrNone, nil},
		{example(note(0, 0)), 0, api.OK, []int{0}},
		{example(note(1, 1)), 0, api.OK, []int{0}},
		{example(note(1, 0), note(1, 2)), 1, api.OK, []int{1}},
		{example(note(1, 0), note(1, 3)), 1, api.OK, []int{0}},
		{example(note(1, 0), note(0, 3), note(1, 3)), 2, api.OK, []int{0}},
		{example(note(1, 0), note(1, 3), note(1, 0)), 1, api.OK, []int{1}},
		{example(note(1, 0), note(1, 0), note(1, 3)), 2, api.OK, []int{2}},
		{example(note(1, 0), note(1, 3), note(1, 3), note(1, 0)), 1, api.OK, []int{0, 3}},
		{example(note(1, 0), note(1, 3), note(1, 1), note(1, 0)), 1, api.OK, []int{1, 2}},
		{example(note(0, 0), note(0, 1), note(0, 2), note(1, 1), note(1, 2)), 0, api.OK, []int{0, 1, 2, 3, 4}},
		{example(note(1, 3), note(0, 3), note(0, 1), note(1, 0), note(1, 3)), 2, api.OK, []int{2, 3}},
	} {
		if n, e := wind.First(x.b); n != x.first || e != x.e {
			t.Errorf("First of %v: %d, %v", x.b, n, e)
		}
		if l := leave(t, x.b); !slices.Equal(l, x.leave) {
			t.Errorf("Leave of %v: %v", x.b, l)
		}
	}
}

func has(lists [][]int, l []int) bool {
	return slices.ContainsFunc(lists, func(o []int) bool { return slices.Equal(o, l) })
}

// P4.1: Play and ProveTruth of all lists of winds, and of ones that are near
// them.
func TestPlayAndProveTruth(t *testing.T) {
	met := map[api.Errno]int{}
	eachBeach(t, func(t *testing.T, b wind.Beach, rnd *rand.Rand) {
		if e := wind.CheckBeach(b); e != api.OK {
			t.Errorf("CheckBeach of %v: %v", b, e)
		}
		plan, own, truths := somePlan(rnd, b), combinations(b.Winds), truthsOf(b)
		tried := slices.Clone(own)
		rnd.Shuffle(len(tried), func(i, j int) { tried[i], tried[j] = tried[j], tried[i] })
		for _, l := range append(nearLists(rnd, own[0]), tried[:min(len(tried), 20)]...) {
			hours, e := wind.Play(b, plan, l)
			met[e]++
			switch {
			case !has(own, l) && e != api.ErrRange || has(own, l) && e != api.OK:
				t.Errorf("Play of %v, %v, %v: %v", b, plan, l, e)
			case e == api.OK && !equal(hours, hoursOf(b, plan, l)):
				t.Errorf("Play of %v, %v, %v: %v", b, plan, l, hours)
			}
			if wind.ProveTruth(b, l) != has(truths, l) {
				t.Errorf("ProveTruth of %v, %v is not %v", b, l, has(truths, l))
			}
		}
	})
	atLeast(t, met[api.OK], 1000, "lists of winds")
	atLeast(t, met[api.ErrRange], 1000, "lists that are not of the winds")
}

// nearLists returns lists of which one number, or the length, is another one.
func nearLists(rnd *rand.Rand, l []int) [][]int {
	out := [][]int{l[:len(l)-1], append(slices.Clone(l), 0), append(slices.Clone(l), l[0]), nil}
	for _, by := range []int{-4, -1, 1, 2, 4, 256, 1 << 32} {
		other := slices.Clone(l)
		other[rnd.Intn(len(l))] += by
		out = append(out, other)
	}
	return out
}

// P4.2 and P4.3: Work, Bounds, Total, and Calm of all places and hours.
func TestBoundsOfManyBeaches(t *testing.T) {
	met, wide := map[int]int{}, 0
	eachTrueBeach(t, func(t *testing.T, b wind.Beach, plan [][]int, rnd *rand.Rand) {
		truths := truthsOf(b)
		if n := work(t, b, plan); n != workOf(b, plan) {
			t.Errorf("Work of %v, %v: %d", b, plan, n)
		}
		if l := bounds(t, b, plan); !equal(l, boundsOf(b, truths, plan)) {
			t.Errorf("Bounds of %v, %v: %v", b, plan, l)
		}
		r := total(t, b, plan)
		if r != totalOf(b, truths, plan) {
			t.Errorf("Total of %v, %v: %v", b, plan, r)
		}
		if r.Lo < r.Hi {
			wide++
		}
		for hour := range b.Last + 1 {
			eachSpot(b, func(p wind.Spot) {
				v := calm(t, b, plan, p, hour)
				met[v]++
				if v != verdictOf(b, truths, plan, p, hour) {
					t.Errorf("Calm of %v, %v, %v, %d: %d", b, plan, p, hour, v)
				}
			})
		}
	})
	for _, v := range []int{yes, no, may} {
		atLeast(t, met[v], 500, "verdicts of one kind")
	}
	atLeast(t, wide, 50, "totals that are not known")
}

// P4.4: Best and its proof, for each work.
func TestBestOfManyBeaches(t *testing.T) {
	grown := 0
	eachSmallBeach(t, func(t *testing.T, b wind.Beach, rnd *rand.Rand) {
		known, greatest := bestOf(b, truthsOf(b)), 0
		for work := range api.MaxWindWork + 1 {
			if known[work] > greatest && work > 0 {
				grown++
			}
			greatest = max(greatest, known[work])
			plan, n := best(t, b, work)
			if n != greatest || totalOf(b, truthsOf(b), plan).Lo != n || workOf(b, plan) > work {
				t.Errorf("Best of %v for %d: %v, %d, not %d", b, work, plan, n, greatest)
				return
			}
			if !wind.ProveTotal(b, plan, work, n) || wind.ProveTotal(b, plan, work, n+1) || wind.ProveTotal(b, plan, workOf(b, plan)-1, n) {
				t.Errorf("ProveTotal of %v, %v", b, plan)
			}
		}
	})
	atLeast(t, grown, 100, "totals that more work makes better")
}

// P4.5: First and Leave.
func TestFirstAndLeaveOfManyBeaches(t *testing.T) {
	met := map[int]int{}
	eachBeach(t, func(t *testing.T, b wind.Beach, rnd *rand.Rand) {
		want, wantError := firstOf(b), api.OK
		if want < 0 {
			want, wantError = 0, api.ErrNone
		}
		if n, e := wind.First(b); n != want || e != wantError {
			t.Errorf("First of %v: %d, %v", b, n, e)
		}
		l := leave(t, b)
		met[len(l)]++
		if !slices.Equal(l, leaveOf(b)) {
			t.Errorf("Leave of %v: %v, not %v", b, l, leaveOf(b))
		}
	})
	for many := range 3 {
		atLeast(t, met[many], 20, "smallest sets of one length")
	}
}

// largest returns a beach at all limits, with all winds in all hours.
func largest() wind.Beach {
	return wind.Beach{
		Last: 4, Rows: 3, Places: 5, Reach: 4,
		Face: []int{0, 1, 2}, Sun: []int{0, 1, 2, 3, -1},
		Winds:  slices.Repeat([][]int{{0, 1, 2, 3}}, 5),
		Breaks: []wind.Spot{spot(0, 0), spot(0, 4), spot(2, 0), spot(2, 4)},
	}
}

// The largest beach: all limits at once, with 1024 truths.
func TestLargestBeach(t *testing.T) {
	b := largest()
	plan := [][]int{{0, 1, 2}, {1, 1, 2}, {2, 2, 2}, {3, 3, 3}, {3, 3, 3}}
	truths := truthsOf(b)
	if len(truths) != 1024 {
		t.Fatalf("%d truths", len(truths))
	}
	if l := bounds(t, b, plan); !equal(l, boundsOf(b, truths, plan)) {
		t.Errorf("Bounds: %v", l)
	}
	if r := total(t, b, plan); r != totalOf(b, truths, plan) {
		t.Errorf("Total: %v", r)
	}
	b.Notes = []wind.Note{note(0, 2), note(1, 3), note(2, 0), note(3, 1), note(4, 0)}
	// Each row turns to the sun, and has its back to the wind, in four hours.
	if plan, n := best(t, b, 99); n != 60 || !wind.ProveTotal(b, plan, 99, 60) {
		t.Errorf("Best for 99: %v, %d", plan, n)
	}
	// Before these hours the three rows need 0, 1 and 2 quarter turns, and then
	// 1 each: 60 in all.
	if plan, n := best(t, b, 60); n != 60 || !wind.ProveTotal(b, plan, 60, 60) {
		t.Errorf("Best for 60: %v, %d", plan, n)
	}
	if _, n := best(t, b, 59); n >= 60 {
		t.Errorf("Best for 59: %d", n)
	}
	b.Notes = slices.Repeat([]wind.Note{note(4, 2)}, 5)
	b.Notes[2].From = 1
	if l := leave(t, b); !slices.Equal(l, []int{2}) {
		t.Errorf("Leave: %v", l)
	}
}
