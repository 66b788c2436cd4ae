package wind_test

import (
	"math/rand"
	"slices"
	"testing"

	"foreshore/api"
	"foreshore/wind"
)

// The oracle: what the chapter defines, computed from all lists of winds, and
// all plans, by the words of the definitions alone, without anything of package
// wind but its types.

// combinations returns all lists with one element of each list.
func combinations[T any](lists [][]T) [][]T {
	out := [][]T{nil}
	for _, list := range lists {
		var longer [][]T
		for _, l := range out {
			for _, x := range list {
				longer = append(longer, append(slices.Clone(l), x))
			}
		}
		out = longer
	}
	return out
}

// rightIn returns those of the lists in which all notes are right, but for the
// ones that are left out.
func rightIn(lists [][]int, notes []wind.Note, left ...int) [][]int {
	var out [][]int
	for _, l := range lists {
		right := true
		for i, n := range notes {
			right = right && (slices.Contains(left, i) || l[n.Hour] == n.From)
		}
		if right {
			out = append(out, l)
		}
	}
	return out
}

// truthsOf returns the truths of the beach.
func truthsOf(b wind.Beach) [][]int { return rightIn(combinations(b.Winds), b.Notes) }

// isBefore reports whether a break is before a place for a direction.
func isBefore(x, p wind.Spot, direction, reach int) bool {
	north, east := p.Row-x.Row, x.Place-p.Place
	far := func(n, aside int) bool { return aside == 0 && 1 <= n && n <= reach }
	switch direction {
	case 0:
		return far(north, east)
	case 1:
		return far(east, north)
	case 2:
		return far(-north, east)
	}
	return far(-east, north)
}

func isOpposite(a, b int) bool { return a == b+2 || a == b-2 }

func isCalm(b wind.Beach, p wind.Spot, face, from int) bool {
	behind := false
	for _, x := range b.Breaks {
		behind = behind || isBefore(x, p, from, b.Reach)
	}
	return behind || isOpposite(face, from)
}

// hoursAt returns the hours of one place.
func hoursAt(b wind.Beach, p wind.Spot, plan [][]int, truth []int) wind.Hours {
	var h wind.Hours
	for hour, from := range truth {
		face := plan[hour][p.Row]
		sun, calm := b.Sun[hour] == face, isCalm(b, p, face, from)
		if sun {
			h.Sun++
		}
		if calm {
			h.Calm++
		}
		if sun && calm {
			h.Good++
		}
	}
	return h
}

func eachSpot(b wind.Beach, f func(p wind.Spot)) {
	for row := range b.Rows {
		for place := range b.Places {
			f(spot(row, place))
		}
	}
}

// byRow returns for each row what the function has of its places.
func byRow[T any](b wind.Beach, f func(p wind.Spot) T) [][]T {
	out := make([][]T, b.Rows)
	eachSpot(b, func(p wind.Spot) { out[p.Row] = append(out[p.Row], f(p)) })
	return out
}

func hoursOf(b wind.Beach, plan [][]int, truth []int) [][]wind.Hours {
	return byRow(b, func(p wind.Spot) wind.Hours { return hoursAt(b, p, plan, truth) })
}

// rangeOf returns the bounds of a number of all truths.
func rangeOf(truths [][]int, number func(truth []int) int) wind.Range {
	var all []int
	for _, l := range truths {
		all = append(all, number(l))
	}
	return to(slices.Min(all), slices.Max(all))
}

func boundsOf(b wind.Beach, truths, plan [][]int) [][]wind.Bound {
	return byRow(b, func(p wind.Spot) wind.Bound {
		return wind.Bound{
			Sun:  hoursAt(b, p, plan, truths[0]).Sun,
			Calm: rangeOf(truths, func(l []int) int { return hoursAt(b, p, plan, l).Calm }),
			Good: rangeOf(truths, func(l []int) int { return hoursAt(b, p, plan, l).Good }),
		}
	})
}

// totalIn returns the total of what each place has.
func totalIn(hours [][]wind.Hours) int {
	total := 0
	for _, h := range slices.Concat(hours...) {
		total += h.Good
	}
	return total
}

func totalOf(b wind.Beach, truths, plan [][]int) wind.Range {
	return rangeOf(truths, func(l []int) int { return totalIn(hoursOf(b, plan, l)) })
}

func verdictOf(b wind.Beach, truths, plan [][]int, p wind.Spot, hour int) int {
	met := map[bool]bool{}
	for _, l := range truths {
		met[isCalm(b, p, plan[hour][p.Row], l[hour])] = true
	}
	switch {
	case !met[false]:
		return wind.Always
	case !met[true]:
		return wind.Never
	}
	return wind.Perhaps
}

// quarterTurns has the work of a row with one place, from each direction to each
// other one.
func quarterTurns(from, to int) int {
	return [4][4]int{{0, 1, 2, 1}, {1, 0, 1, 2}, {2, 1, 0, 1}, {1, 2, 1, 0}}[from][to]
}

func workOf(b wind.Beach, plan [][]int) int {
	work := 0
	for hour, rows := range plan {
		for row, face := range rows {
			before := b.Face[row]
			if hour > 0 {
				before = plan[hour-1][row]
			}
			work += quarterTurns(before, face) * b.Places
		}
	}
	return work
}

// plansOf returns all plans of a beach.
func plansOf(b wind.Beach) [][][]int {
	rows := combinations(slices.Repeat([][]int{{0, 1, 2, 3}}, b.Rows))
	return combinations(slices.Repeat([][][]int{rows}, b.Last+1))
}

// bestOf returns the best total of each work that some plan needs, without what
// is less than for less work.
func bestOf(b wind.Beach, truths [][]int) map[int]int {
	best := map[int]int{}
	for _, plan := range plansOf(b) {
		work := workOf(b, plan)
		best[work] = max(best[work], totalOf(b, truths, plan).Lo)
	}
	return best
}

// firstOf returns the first wrong note, or -1.
func firstOf(b wind.Beach) int {
	lists := combinations(b.Winds)
	for n := range b.Notes {
		if len(rightIn(lists, b.Notes[:n+1])) == 0 {
			return n
		}
	}
	return -1
}

// subsets returns all increasing lists of numbers from 0 to n-1, the shorter
// ones first, those of one length in their lexicographic order.
func subsets(n int) [][]int {
	var out [][]int
	for code := range 1 << n {
		var l []int
		for i := range n {
			if code>>i&1 == 1 {
				l = append(l, i)
			}
		}
		out = append(out, l)
	}
	slices.SortFunc(out, func(a, b []int) int {
		if len(a) != len(b) {
			return len(a) - len(b)
		}
		return slices.Compare(a, b)
	})
	return out
}

// leaveOf returns the smallest set.
func leaveOf(b wind.Beach) []int {
	lists := combinations(b.Winds)
	for _, l := range subsets(len(b.Notes)) {
		if len(rightIn(lists, b.Notes, l...)) > 0 {
			return l
		}
	}
	panic("the beach has no winds")
}

func to(low, high int) wind.Range { return wind.Range{Lo: low, Hi: high} }

func spot(row, place int) wind.Spot { return wind.Spot{Row: row, Place: place} }

func note(hour, from int) wind.Note { return wind.Note{Hour: hour, From: from} }

// example is the beach of the chapter's examples, with notes.
func example(l ...wind.Note) wind.Beach {
	return wind.Beach{Last: 1, Rows: 2, Places: 3, Reach: 1, Face: []int{2, 2}, Sun: []int{2, 3}, Winds: [][]int{{3}, {0, 3}}, Breaks: []wind.Spot{spot(0, 0)}, Notes: l}
}

// stay and turn are the plans of the chapter's examples.
func stay() [][]int { return [][]int{{2, 2}, {2, 2}} }
func turn() [][]int { return [][]int{{2, 2}, {3, 3}} }

// someBeach returns a beach that has one list of winds, from which most of its
// notes are, so that many beaches have a truth, and many have none.
func someBeach(rnd *rand.Rand) wind.Beach {
	b := wind.Beach{Last: rnd.Intn(api.MaxWindLast + 1), Rows: 1 + rnd.Intn(api.MaxWindRows), Places: 1 + rnd.Intn(api.MaxWindPlaces), Reach: rnd.Intn(api.MaxWindReach + 1)}
	var hidden []int
	for range b.Last + 1 {
		from := rnd.Intn(4)
		hidden = append(hidden, from)
		b.Winds = append(b.Winds, choice(func(direction int) bool { return direction == from || rnd.Intn(4) == 0 }))
		b.Sun = append(b.Sun, someSun(rnd, from))
	}
	for range b.Rows {
		b.Face = append(b.Face, rnd.Intn(4))
	}
	for range rnd.Intn(api.MaxWindBreaks + 1) {
		b.Breaks = append(b.Breaks, someSpot(rnd, b))
	}
	for range rnd.Intn(api.MaxWindNotes + 1) {
		b.Notes = append(b.Notes, someNote(rnd, hidden))
	}
	return b
}

// choice returns the directions that are wanted.
func choice(wanted func(direction int) bool) []int {
	var out []int
	for direction := range 4 {
		if wanted(direction) {
			out = append(out, direction)
		}
	}
	return out
}

// someSun is often there where a row that faces it has its back to the wind.
func someSun(rnd *rand.Rand, from int) int {
	if rnd.Intn(2) == 0 {
		return (from + 2) % 4
	}
	return rnd.Intn(5) - 1
}

func someSpot(rnd *rand.Rand, b wind.Beach) wind.Spot {
	return spot(rnd.Intn(b.Rows), rnd.Intn(b.Places))
}

func someNote(rnd *rand.Rand, winds []int) wind.Note {
	hour := rnd.Intn(len(winds))
	if rnd.Intn(4) == 0 {
		return note(hour, rnd.Intn(4))
	}
	return note(hour, winds[hour])
}

// somePlan returns a plan that often turns rows to the sun, and often lets them
// be.
func somePlan(rnd *rand.Rand, b wind.Beach) [][]int {
	var plan [][]int
	before := b.Face
	for hour := range b.Last + 1 {
		rows := slices.Clone(before)
		for row := range rows {
			switch rnd.Intn(3) {
			case 0:
				rows[row] = max(b.Sun[hour], 0)
			case 1:
				rows[row] = rnd.Intn(4)
			}
		}
		plan = append(plan, rows)
		before = rows
	}
	return plan
}

// eachBeach calls the function with many beaches, each with a generator of its
// own for what else is chosen.
func eachBeach(t *testing.T, f func(t *testing.T, b wind.Beach, rnd *rand.Rand)) {
	t.Helper()
	for seed := range 500 {
		rnd := rand.New(rand.NewSource(int64(seed)))
		f(t, someBeach(rnd), rnd)
		if t.Failed() {
			return
		}
	}
}

// eachTrueBeach is eachBeach for the beaches that have a truth, with a plan.
func eachTrueBeach(t *testing.T, f func(t *testing.T, b wind.Beach, plan [][]int, rnd *rand.Rand)) {
	t.Helper()
	seen := 0
	eachBeach(t, func(t *testing.T, b wind.Beach, rnd *rand.Rand) {
		if len(truthsOf(b)) > 0 {
			seen++
			f(t, b, somePlan(rnd, b), rnd)
		}
	})
	atLeast(t, seen, 100, "beaches that have a truth")
}

// eachSmallBeach is eachTrueBeach for the beaches with so few plans and truths
// that all of them can be tried.
func eachSmallBeach(t *testing.T, f func(t *testing.T, b wind.Beach, rnd *rand.Rand)) {
	t.Helper()
	seen := 0
	eachTrueBeach(t, func(t *testing.T, b wind.Beach, plan [][]int, rnd *rand.Rand) {
		if turned := b.Rows * (b.Last + 1); turned <= 6 && len(truthsOf(b))<<(2*turned) <= 5000 {
			seen++
			f(t, b, rnd)
		}
	})
	atLeast(t, seen, 50, "beaches of which all plans are tried")
}

// atLeast wants that a test has met enough of what it is about.
func atLeast(t *testing.T, met, wanted int, what string) {
	t.Helper()
	if !t.Failed() && met < wanted {
		t.Errorf("only %d %s", met, what)
	}
}

// The calls of a beach of which the test says that they have a result.

func play(t *testing.T, b wind.Beach, plan [][]int, truth []int) [][]wind.Hours {
	t.Helper()
	l, e := wind.Play(b, plan, truth)
	if e != api.OK {
		t.Fatalf("Play of %v, %v, %v: %v", b, plan, truth, e)
	}
	return l
}

func work(t *testing.T, b wind.Beach, plan [][]int) int {
	t.Helper()
	n, e := wind.Work(b, plan)
	if e != api.OK {
		t.Fatalf("Work of %v, %v: %v", b, plan, e)
	}
	return n
}

func bounds(t *testing.T, b wind.Beach, plan [][]int) [][]wind.Bound {
	t.Helper()
	l, e := wind.Bounds(b, plan)
	if e != api.OK {
		t.Fatalf("Bounds of %v, %v: %v", b, plan, e)
	}
	return l
}

func calm(t *testing.T, b wind.Beach, plan [][]int, p wind.Spot, hour int) int {
	t.Helper()
	v, e := wind.Calm(b, plan, p, hour)
	if e != api.OK {
		t.Fatalf("Calm of %v, %v, %v, %d: %v", b, plan, p, hour, e)
	}
	return v
}

func total(t *testing.T, b wind.Beach, plan [][]int) wind.Range {
	t.Helper()
	r, e := wind.Total(b, plan)
	if e != api.OK {
		t.Fatalf("Total of %v, %v: %v", b, plan, e)
	}
	return r
}

func best(t *testing.T, b wind.Beach, work int) ([][]int, int) {
	t.Helper()
	plan, n, e := wind.Best(b, work)
	if e != api.OK {
		t.Fatalf("Best of %v, %d: %v", b, work, e)
	}
	return plan, n
}

func leave(t *testing.T, b wind.Beach) []int {
	t.Helper()
	l, e := wind.Leave(b)
	if e != api.OK {
		t.Fatalf("Leave of %v: %v", b, e)
	}
	return l
}

// hasTruth reports what Best says of a beach.
func hasTruth(t *testing.T, b wind.Beach) bool {
	t.Helper()
	_, _, e := wind.Best(b, 0)
	if e != api.OK && e != api.ErrFalse {
		t.Fatalf("Best of %v: %v", b, e)
	}
	return e == api.OK
}

// deep returns a copy of lists that shares no memory with them.
func deep(lists [][]int) [][]int {
	var out [][]int
	for _, l := range lists {
		out = append(out, slices.Clone(l))
	}
	return out
}

// copied returns a beach that shares no memory with the given one.
func copied(b wind.Beach) wind.Beach {
	b.Face, b.Sun, b.Winds = slices.Clone(b.Face), slices.Clone(b.Sun), deep(b.Winds)
	b.Breaks, b.Notes = slices.Clone(b.Breaks), slices.Clone(b.Notes)
	return b
}

// without returns the beach without the notes of these numbers.
func without(b wind.Beach, left []int) wind.Beach {
	var kept []wind.Note
	for i, n := range b.Notes {
		if !slices.Contains(left, i) {
			kept = append(kept, n)
		}
	}
	b = copied(b)
	b.Notes = kept
	return b
}

// upTo returns the beach with so many of its notes.
func upTo(b wind.Beach, many int) wind.Beach {
	b = copied(b)
	b.Notes = b.Notes[:many]
	return b
}

// equal reports whether two lists have the same lists.
func equal[T comparable](a, b [][]T) bool { return slices.EqualFunc(a, b, slices.Equal[[]T]) }
