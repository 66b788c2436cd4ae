package seat_test

import (
	"math/rand"
	"slices"
	"testing"

	"foreshore/api"
	"foreshore/seat"
	"foreshore/wind"
)

// The oracle: what the chapter defines, computed from all truths and all ways to
// take places, by the words of the definitions alone, without anything of
// package seat but its types; layer 4 says which hours are good.

// combinations returns all lists with one element of each list.
func combinations[T any](lists [][]T) [][]T {
	out := [][]T{nil}
	for _, list := range lists {
		var longer [][]T
		for _, l := range out {
			for _, x := range list {
				longer = append(longer, append(slices.Clone(l), x))
			}
		}
		out = longer
	}
	return out
}

// truthsOf returns the truths of the beach.
func truthsOf(c seat.Case) [][]int {
	var out [][]int
	for _, l := range combinations(c.Beach.Winds) {
		if wind.ProveTruth(c.Beach, l) {
			out = append(out, l)
		}
	}
	return out
}

// hours has a number for each place of the beach.
type hours map[wind.Spot]int

// goodIn returns the good hours of all places in a truth.
func goodIn(c seat.Case, truth []int) hours {
	played, e := wind.Play(c.Beach, c.Plan, truth)
	if e != api.OK {
		panic(e)
	}
	out := hours{}
	for row, places := range played {
		for place, h := range places {
			out[spot(row, place)] = h.Good
		}
	}
	return out
}

// goodOf returns the good hours of all places in each truth.
func goodOf(c seat.Case) []hours {
	var out []hours
	for _, l := range truthsOf(c) {
		out = append(out, goodIn(c, l))
	}
	return out
}

// sureOf returns the sure hours of all places.
func sureOf(c seat.Case) hours {
	all := goodOf(c)
	out := hours{}
	for p := range all[0] {
		out[p] = all[0][p]
		for _, h := range all {
			out[p] = min(out[p], h[p])
		}
	}
	return out
}

// run returns the places of a group.
func run(first wind.Spot, size int) []wind.Spot {
	var out []wind.Spot
	for i := range size {
		out = append(out, spot(first.Row, first.Place+i))
	}
	return out
}

// runs returns the groups with these first places.
func runs(c seat.Case, seats []wind.Spot) [][]wind.Spot {
	var out [][]wind.Spot
	for i, p := range seats {
		out = append(out, run(p, c.Families[i].Size))
	}
	return out
}

func isPlace(c seat.Case, p wind.Spot) bool {
	return p.Row >= 0 && p.Row < c.Beach.Rows && p.Place >= 0 && p.Place < c.Beach.Places
}

func areBeside(p, q wind.Spot) bool {
	return p.Row == q.Row && (p.Place == q.Place+1 || p.Place == q.Place-1)
}

// isSeated reports whether the families, each with its places, keep apart what
// has to be, on places of the beach, with chairs for all.
func isSeated(c seat.Case, places [][]wind.Spot) bool {
	chairs, taken := 0, map[wind.Spot]bool{}
	for _, row := range c.Chairs {
		for _, there := range row {
			if there {
				chairs++
			}
		}
	}
	for i, l := range places {
		for _, p := range l {
			if !isPlace(c, p) || taken[p] {
				return false
			}
			taken[p] = true
			for j, other := range places {
				for _, q := range other {
					if i != j && areBeside(p, q) && c.Families[i].Shy && c.Families[j].Dog {
						return false
					}
				}
			}
		}
	}
	return len(taken) <= chairs
}

// groupsOf returns the groups of so many people on places of the beach that have
// at least so many sure hours each.
func groupsOf(c seat.Case, sure hours, size, good int) [][]wind.Spot {
	var out [][]wind.Spot
	eachSpot(c, func(first wind.Spot) {
		l := run(first, size)
		if !slices.ContainsFunc(l, func(p wind.Spot) bool { return !isPlace(c, p) || sure[p] < good }) {
			out = append(out, l)
		}
	})
	return out
}

// eachAllowed calls the function with the places of the families in each allowed
// seating, until it returns false.
func eachAllowed(c seat.Case, sure hours, f func(places [][]wind.Spot) bool) {
	eachChoice(c, wholes(c, sure), f)
}

// wholes returns for each family the places that it can have alone.
func wholes(c seat.Case, sure hours) [][][]wind.Spot {
	var out [][][]wind.Spot
	for _, f := range c.Families {
		out = append(out, groupsOf(c, sure, f.Size, f.Good))
	}
	return out
}

// eachChoice calls the function with each choice of places that can be had
// together.
func eachChoice(c seat.Case, choices [][][]wind.Spot, f func(places [][]wind.Spot) bool) {
	for _, places := range combinations(choices) {
		if isSeated(c, places) && !f(places) {
			return
		}
	}
}

func canSeat(c seat.Case, choices [][][]wind.Spot) bool {
	can := false
	eachChoice(c, choices, func([][]wind.Spot) bool {
		can = true
		return false
	})
	return can
}

// sunOf returns the sum of the hours of these places.
func sunOf(h hours, places [][]wind.Spot) int {
	sum := 0
	for _, p := range slices.Concat(places...) {
		sum += h[p]
	}
	return sum
}

func carriedFor(c seat.Case, places [][]wind.Spot) int {
	many := 0
	for _, p := range slices.Concat(places...) {
		if !c.Chairs[p.Row][p.Place] {
			many++
		}
	}
	return many
}

// score is what is said of the best seatings.
type score struct {
	sun, carried int
	ok           bool
}

func bestOf(c seat.Case) score {
	var s score
	sure := sureOf(c)
	eachAllowed(c, sure, func(places [][]wind.Spot) bool {
		sun, carried := sunOf(sure, places), carriedFor(c, places)
		if !s.ok || sun > s.sun || sun == s.sun && carried < s.carried {
			s = score{sun, carried, true}
		}
		return true
	})
	return s
}

// boundsOf returns for each family the bounds of a number of all truths.
func boundsOf(good []hours, places [][]wind.Spot, number func(family int, h hours) int) []seat.Range {
	var out []seat.Range
	for i := range places {
		var all []int
		for _, h := range good {
			all = append(all, number(i, h))
		}
		out = append(out, to(slices.Min(all), slices.Max(all)))
	}
	return out
}

// sums returns for each family the bounds of the good hours of its places.
func sums(c seat.Case, good []hours, places [][]wind.Spot) []seat.Range {
	return boundsOf(good, places, func(i int, h hours) int { return sunOf(h, places[i:i+1]) })
}

func isContent(f seat.Family, h hours, places []wind.Spot) bool {
	return !slices.ContainsFunc(places, func(p wind.Spot) bool { return h[p] < f.Good })
}

// contentOf returns for each family whether it is content.
func contentOf(c seat.Case, good []hours, places [][]wind.Spot) []int {
	var out []int
	for i, f := range c.Families {
		met := map[bool]bool{}
		for _, h := range good {
			met[isContent(f, h, places[i])] = true
		}
		switch {
		case !met[false]:
			out = append(out, seat.Always)
		case !met[true]:
			out = append(out, seat.Never)
		default:
			out = append(out, seat.Perhaps)
		}
	}
	return out
}

// subsets returns all increasing lists of numbers from 0 to n-1, the shorter
// ones first, those of one length in their lexicographic order.
func subsets(n int) [][]int {
	var out [][]int
	for code := range 1 << n {
		var l []int
		for i := range n {
			if code>>i&1 == 1 {
				l = append(l, i)
			}
		}
		out = append(out, l)
	}
	slices.SortFunc(out, func(a, b []int) int {
		if len(a) != len(b) {
			return len(a) - len(b)
		}
		return slices.Compare(a, b)
	})
	return out
}

// leaveOf returns the smallest set.
func leaveOf(c seat.Case) []int {
	sure := sureOf(c)
	for _, l := range subsets(len(c.Families)) {
		if x := without(c, l...); canSeat(x, wholes(x, sure)) {
			return l
		}
	}
	panic("nobody cannot be seated")
}

// partOf returns all families that can be parted.
func partOf(c seat.Case) []int {
	sure := sureOf(c)
	var out []int
	for i, f := range c.Families {
		choices := wholes(c, sure)
		choices[i] = nil
		for size := 1; size < f.Size; size++ {
			for _, l := range combinations([][][]wind.Spot{groupsOf(c, sure, size, f.Good), groupsOf(c, sure, f.Size-size, f.Good)}) {
				choices[i] = append(choices[i], slices.Concat(l...))
			}
		}
		if canSeat(c, choices) {
			out = append(out, i)
		}
	}
	return out
}

// gain is a spot with its gain.
type gain struct {
	spot wind.Spot
	sun  int
}

// gainsOf returns the gains of all spots that have one.
func gainsOf(c seat.Case) []gain {
	var out []gain
	eachSpot(c, func(p wind.Spot) {
		if s := bestOf(sheltered(c, p)); s.ok {
			out = append(out, gain{p, s.sun})
		}
	})
	return out
}

// breakOf returns the best spot with its gain, if a spot has one.
func breakOf(c seat.Case) (g gain, ok bool) {
	all := gainsOf(c)
	slices.SortFunc(all, func(a, b gain) int {
		if a.sun != b.sun {
			return b.sun - a.sun
		}
		if a.spot.Row != b.spot.Row {
			return a.spot.Row - b.spot.Row
		}
		return a.spot.Place - b.spot.Place
	})
	if len(all) == 0 {
		return gain{}, false
	}
	return all[0], true
}

func eachSpot(c seat.Case, f func(p wind.Spot)) {
	for row := range c.Beach.Rows {
		for place := range c.Beach.Places {
			f(spot(row, place))
		}
	}
}

func to(low, high int) seat.Range { return seat.Range{Lo: low, Hi: high} }

func spot(row, place int) wind.Spot { return wind.Spot{Row: row, Place: place} }

func note(hour, from int) wind.Note { return wind.Note{Hour: hour, From: from} }

// deep returns a copy of lists that shares no memory with them.
func deep[T any](lists [][]T) [][]T {
	var out [][]T
	for _, l := range lists {
		out = append(out, slices.Clone(l))
	}
	return out
}

// copied returns a case that shares no memory with the given one.
func copied(c seat.Case) seat.Case {
	b := &c.Beach
	b.Face, b.Sun, b.Winds = slices.Clone(b.Face), slices.Clone(b.Sun), deep(b.Winds)
	b.Breaks, b.Notes = slices.Clone(b.Breaks), slices.Clone(b.Notes)
	c.Plan, c.Chairs, c.Families = deep(c.Plan), deep(c.Chairs), slices.Clone(c.Families)
	return c
}

// without returns the case without the families of these numbers.
func without(c seat.Case, left ...int) seat.Case {
	var kept []seat.Family
	for i, f := range c.Families {
		if !slices.Contains(left, i) {
			kept = append(kept, f)
		}
	}
	c = copied(c)
	c.Families = kept
	return c
}

// sheltered returns the case with one more break.
func sheltered(c seat.Case, p wind.Spot) seat.Case {
	c = copied(c)
	c.Beach.Breaks = append(c.Beach.Breaks, p)
	return c
}

// family has a size, hours, and signs: d for a dog, s for shy.
func family(size, good int, signs string) seat.Family {
	f := seat.Family{Size: size, Good: good}
	for _, c := range signs {
		f.Dog, f.Shy = f.Dog || c == 'd', f.Shy || c == 's'
	}
	return f
}

// example is the case of the chapter's examples, with families.
func example(l ...seat.Family) seat.Case {
	b := wind.Beach{Last: 1, Rows: 2, Places: 3, Reach: 1, Face: []int{2, 2}, Sun: []int{2, 3}, Winds: [][]int{{3}, {0, 3}}, Breaks: []wind.Spot{spot(0, 0)}}
	return seat.Case{Beach: b, Plan: [][]int{{2, 2}, {3, 3}}, Chairs: [][]bool{{true, false, true}, {true, true, true}}, Families: l}
}

// sunny is a case of one hour, with a chair at each place, in which each place
// is good.
func sunny(rows, places int, l ...seat.Family) seat.Case {
	b := wind.Beach{Rows: rows, Places: places, Face: make([]int, rows), Sun: []int{2}, Winds: [][]int{{0}}}
	chairs := slices.Repeat([]bool{true}, places)
	return seat.Case{Beach: b, Plan: [][]int{slices.Repeat([]int{2}, rows)}, Chairs: deep(slices.Repeat([][]bool{chairs}, rows)), Families: l}
}

// someCase returns a case with a truth, in which most rows face the sun, and many
// have their backs to a wind that can come.
func someCase(rnd *rand.Rand) seat.Case {
	b := wind.Beach{Last: rnd.Intn(api.MaxWindLast + 1), Rows: 1 + rnd.Intn(api.MaxWindRows), Places: 1 + rnd.Intn(api.MaxWindPlaces), Reach: rnd.Intn(api.MaxWindReach + 1)}
	c := seat.Case{Beach: b}
	for range b.Rows {
		c.Beach.Face = append(c.Beach.Face, rnd.Intn(4))
	}
	for hour := range b.Last + 1 {
		addHour(rnd, &c, hour)
	}
	for range rnd.Intn(api.MaxWindBreaks + 1) {
		c.Beach.Breaks = append(c.Beach.Breaks, someSpot(rnd, c))
	}
	c.Chairs = someChairs(rnd, b.Rows, b.Places)
	for range rnd.Intn(api.MaxSeatFamilies + 1) {
		c.Families = append(c.Families, someFamily(rnd))
	}
	return c
}

func addHour(rnd *rand.Rand, c *seat.Case, hour int) {
	from := rnd.Intn(4)
	var winds, rows []int
	for direction := range 4 {
		if direction == from || rnd.Intn(6) == 0 {
			winds = append(winds, direction)
		}
	}
	sun := (from + 2) % 4
	if rnd.Intn(2) == 0 {
		sun = rnd.Intn(5) - 1
	}
	for range c.Beach.Rows {
		face := max(sun, 0)
		if rnd.Intn(6) == 0 {
			face = rnd.Intn(4)
		}
		rows = append(rows, face)
	}
	if len(c.Beach.Notes) < api.MaxWindNotes && rnd.Intn(4) == 0 {
		c.Beach.Notes = append(c.Beach.Notes, note(hour, from))
	}
	c.Beach.Sun, c.Beach.Winds = append(c.Beach.Sun, sun), append(c.Beach.Winds, winds)
	c.Plan = append(c.Plan, rows)
}

func someSpot(rnd *rand.Rand, c seat.Case) wind.Spot {
	return spot(rnd.Intn(c.Beach.Rows), rnd.Intn(c.Beach.Places))
}

// someChairs returns chairs at most places, or at few.
func someChairs(rnd *rand.Rand, rows, places int) [][]bool {
	dense := 2 + rnd.Intn(9)
	var out [][]bool
	for range rows {
		var l []bool
		for range places {
			l = append(l, rnd.Intn(10) < dense)
		}
		out = append(out, l)
	}
	return out
}

// someFamily returns a family that is small more often than large, and often wants
// no good hours.
func someFamily(rnd *rand.Rand) seat.Family {
	return seat.Family{Size: 1 + rnd.Intn(2+rnd.Intn(api.MaxSeatSize-1)), Good: max(0, rnd.Intn(8)-4), Dog: rnd.Intn(3) == 0, Shy: rnd.Intn(3) == 0}
}

// someSeats returns first places for the families, which are often a seating.
func someSeats(rnd *rand.Rand, c seat.Case) []wind.Spot {
	var out []wind.Spot
	for _, f := range c.Families {
		p := someSpot(rnd, c)
		p.Place = rnd.Intn(max(c.Beach.Places-f.Size, 0) + 1)
		out = append(out, p)
	}
	return out
}

// eachCase calls the function with many cases, each with a generator of its own
// for what else is chosen.
func eachCase(t *testing.T, f func(t *testing.T, c seat.Case, rnd *rand.Rand)) {
	t.Helper()
	for seed := range 3000 {
		rnd := rand.New(rand.NewSource(int64(seed)))
		f(t, someCase(rnd), rnd)
		if t.Failed() {
			return
		}
	}
}

// eachSeated is eachCase with seatings, allowed or not, of each case.
func eachSeated(t *testing.T, f func(t *testing.T, c seat.Case, seats []wind.Spot, rnd *rand.Rand)) {
	t.Helper()
	seen := 0
	eachCase(t, func(t *testing.T, c seat.Case, rnd *rand.Rand) {
		for range 5 {
			if seats := someSeats(rnd, c); isSeated(c, runs(c, seats)) {
				seen++
				f(t, c, seats, rnd)
			}
		}
	})
	atLeast(t, seen, 1000, "seatings")
}

// atLeast wants that a test has met enough of what it is about.
func atLeast(t *testing.T, met, wanted int, what string) {
	t.Helper()
	if !t.Failed() && met < wanted {
		t.Errorf("only %d %s", met, what)
	}
}

// The calls of a case of which the test says that they have a result.

func play(t *testing.T, c seat.Case, seats []wind.Spot, truth []int) []int {
	t.Helper()
	l, e := seat.Play(c, seats, truth)
	if e != api.OK {
		t.Fatalf("Play of %v, %v, %v: %v", c, seats, truth, e)
	}
	return l
}

func bounds(t *testing.T, c seat.Case, seats []wind.Spot) []seat.Range {
	t.Helper()
	l, e := seat.Bounds(c, seats)
	if e != api.OK {
		t.Fatalf("Bounds of %v, %v: %v", c, seats, e)
	}
	return l
}

func content(t *testing.T, c seat.Case, seats []wind.Spot) []int {
	t.Helper()
	l, e := seat.Content(c, seats)
	if e != api.OK {
		t.Fatalf("Content of %v, %v: %v", c, seats, e)
	}
	return l
}

// found returns the best seating of a case, if Best has one.
func found(t *testing.T, c seat.Case) ([]wind.Spot, score) {
	t.Helper()
	seats, sun, carried, e := seat.Best(c)
	if e != api.OK && e != api.ErrShort {
		t.Fatalf("Best of %v: %v", c, e)
	}
	return seats, score{sun, carried, e == api.OK}
}

// best returns what Best says of a case.
func best(t *testing.T, c seat.Case) score {
	t.Helper()
	_, s := found(t, c)
	return s
}

func leave(t *testing.T, c seat.Case) []int {
	t.Helper()
	l, e := seat.Leave(c)
	if e != api.OK {
		t.Fatalf("Leave of %v: %v", c, e)
	}
	return l
}

// part returns the families that can be parted, in a case without an allowed
// seating.
func part(t *testing.T, c seat.Case) []int {
	t.Helper()
	l, e := seat.Part(c)
	if e != api.OK {
		t.Fatalf("Part of %v: %v", c, e)
	}
	return l
}
