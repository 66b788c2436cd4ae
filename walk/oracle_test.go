package walk_test

import (
	"math/rand"
	"slices"
	"testing"

	"foreshore/api"
	"foreshore/count"
	"foreshore/walk"
)

// The oracle: what the chapter defines, computed from all walks and all morning's
// numbers by the words of the definitions alone, without anything of package walk
// but its types; layer 1 says how many chairs a row has.

// combinations returns all lists with one number of each range, in their
// lexicographic order.
func combinations(ranges []walk.Range) [][]int {
	out := [][]int{nil}
	for _, r := range ranges {
		var longer [][]int
		for _, l := range out {
			for n := r.Lo; n <= r.Hi; n++ {
				longer = append(longer, append(slices.Clone(l), n))
			}
		}
		out = longer
	}
	return out
}

// allWalks returns all walks over so many borders.
func allWalks(borders int) [][]int {
	return combinations(slices.Repeat([]walk.Range{to(0, 6)}, 2*borders))
}

// numbersOf returns how many chairs each of the rows has.
func numbersOf(rows []count.Row) []walk.Range {
	var out []walk.Range
	for _, r := range rows {
		n, e := count.Chairs(r, 0, len(r.Places)-1)
		if e != api.OK {
			panic(e)
		}
		out = append(out, to(n.Lo, n.Hi))
	}
	return out
}

// eveningOf returns the evening that follows.
func eveningOf(morning, w []int) []int {
	out := slices.Clone(morning)
	for stretch := range out {
		if stretch > 0 {
			out[stretch] += w[2*stretch-2] - w[2*stretch-1]
		}
		if stretch < len(out)-1 {
			out[stretch] += w[2*stretch+1] - w[2*stretch]
		}
	}
	return out
}

func has(r walk.Range, n int) bool { return r.Lo <= n && n <= r.Hi }

func areIn(numbers []int, ranges []walk.Range) bool {
	for i, n := range numbers {
		if !has(ranges[i], n) {
			return false
		}
	}
	return true
}

// gone is a walk with numbers that go with it, but for lines.
type gone struct{ walk, morning, evening []int }

// wentOf returns all walks that explain the counts, with all numbers, in the order
// of the walks.
func wentOf(d walk.Day) []gone {
	var out []gone
	mornings, evenings := combinations(numbersOf(d.Morning)), numbersOf(d.Evening)
	for _, w := range allWalks(len(d.Morning) - 1) {
		for _, morning := range mornings {
			if evening := eveningOf(morning, w); areIn(evening, evenings) {
				out = append(out, gone{w, morning, evening})
			}
		}
	}
	return out
}

func isRight(l walk.Line, w []int) bool {
	if l.Left {
		return has(l.Many, w[2*l.Border+1])
	}
	return has(l.Many, w[2*l.Border])
}

// rightIn returns those in whose walk all lines are right, but for the ones that
// are left out.
func rightIn(went []gone, lines []walk.Line, left ...int) []gone {
	var out []gone
	for _, g := range went {
		right := true
		for i, l := range lines {
			right = right && (slices.Contains(left, i) || isRight(l, g.walk))
		}
		if right {
			out = append(out, g)
		}
	}
	return out
}

// ownOf returns the walks of the day, with the numbers that go with them.
func ownOf(d walk.Day) []gone { return rightIn(wentOf(d), d.Lines) }

func sum(l []int) int {
	n := 0
	for _, x := range l {
		n += x
	}
	return n
}

// limits is all that is bounded.
type limits struct {
	morning, evening []walk.Range // of each stretch
	over             []walk.Range // of each number of a walk
	carried          walk.Range
}

// rangeOf returns the bounds of a number.
func rangeOf(own []gone, number func(g gone) int) walk.Range {
	r := to(number(own[0]), number(own[0]))
	for _, g := range own {
		r = to(min(r.Lo, number(g)), max(r.Hi, number(g)))
	}
	return r
}

// rangesOf returns the bounds of all numbers of a list.
func rangesOf(own []gone, list func(g gone) []int) []walk.Range {
	var out []walk.Range
	for i := range list(own[0]) {
		out = append(out, rangeOf(own, func(g gone) int { return list(g)[i] }))
	}
	return out
}

func limitsOf(own []gone) limits {
	return limits{
		rangesOf(own, func(g gone) []int { return g.morning }),
		rangesOf(own, func(g gone) []int { return g.evening }),
		rangesOf(own, func(g gone) []int { return g.walk }),
		rangeOf(own, func(g gone) int { return sum(g.walk) }),
	}
}

func (l limits) equal(other limits) bool {
	return slices.Equal(l.morning, other.morning) && slices.Equal(l.evening, other.evening) && slices.Equal(l.over, other.over) && l.carried == other.carried
}

// fewestOf returns the fewest walk.
func fewestOf(own []gone) []int {
	return slices.MinFunc(own, func(a, b gone) int {
		if sum(a.walk) != sum(b.walk) {
			return sum(a.walk) - sum(b.walk)
		}
		return slices.Compare(a.walk, b.walk)
	}).walk
}

// firstOf returns the first wrong line, or -1.
func firstOf(went []gone, lines []walk.Line) int {
	for n := range lines {
		if len(rightIn(went, lines[:n+1])) == 0 {
			return n
		}
	}
	return -1
}

// subsets returns all increasing lists of numbers from 0 to n-1, the shorter
// ones first, those of one length in their lexicographic order.
func subsets(n int) [][]int {
	var out [][]int
	for code := range 1 << n {
		var l []int
		for i := range n {
			if code>>i&1 == 1 {
				l = append(l, i)
			}
		}
		out = append(out, l)
	}
	slices.SortFunc(out, func(a, b []int) int {
		if len(a) != len(b) {
			return len(a) - len(b)
		}
		return slices.Compare(a, b)
	})
	return out
}

// leaveOf returns the smallest set.
func leaveOf(went []gone, lines []walk.Line) []int {
	for _, l := range subsets(len(lines)) {
		if len(rightIn(went, lines, l...)) > 0 {
			return l
		}
	}
	panic("no walk explains the counts")
}

func to(low, high int) walk.Range { return walk.Range{Lo: low, Hi: high} }

func ranges(l ...int) []walk.Range {
	var out []walk.Range
	for i := 0; i < len(l); i += 2 {
		out = append(out, to(l[i], l[i+1]))
	}
	return out
}

func right(border, low, high int) walk.Line {
	return walk.Line{Border: border, Many: to(low, high)}
}

func left(border, low, high int) walk.Line {
	return walk.Line{Border: border, Left: true, Many: to(low, high)}
}

func places(l ...int) count.Row { return count.Row{Places: l} }

// row has from the one number of chairs to the other one.
func row(low, high int) count.Row {
	r := places(0)
	for n := range high {
		r.Places = append(r.Places[:n], 2)
		if n < low {
			r.Places[n] = 1
		}
	}
	return r
}

func rows(l ...walk.Range) []count.Row {
	var out []count.Row
	for _, r := range l {
		out = append(out, row(r.Lo, r.Hi))
	}
	return out
}

// day has a range of each stretch in the morning, then one of each in the evening.
func day(r []walk.Range, l ...walk.Line) walk.Day {
	half := len(r) / 2
	return walk.Day{Morning: rows(r[:half]...), Evening: rows(r[half:]...), Lines: l}
}

// example is the day of the chapter's examples, with lines.
func example(l ...walk.Line) walk.Day {
	last := places(2, 2, 2)
	last.Counts = []count.Count{{Many: 3, Number: 3}}
	return walk.Day{Morning: []count.Row{places(1, 1, 1, 0), places(1, 2, 0)}, Evening: []count.Row{places(1, 2, 0, 0), last}, Lines: l}
}

// unlike is a day whose counts no walk explains, with lines.
func unlike(l ...walk.Line) walk.Day {
	d := example(l...)
	d.Evening[1] = places(0, 0, 0)
	return d
}

// someDay returns a day that has, in most cases, a walk that explains the counts,
// and near which most of its lines are, so that many days have a walk, and many
// have none.
func someDay(rnd *rand.Rand) walk.Day {
	var d walk.Day
	borders := 1 + rnd.Intn(2)
	morning, hidden := someWalk(rnd, borders)
	evening := eveningOf(morning, hidden)
	if rnd.Intn(12) == 0 {
		evening[rnd.Intn(borders+1)] = rnd.Intn(api.MaxCountPlaces + 1)
	}
	for stretch := range morning {
		d.Morning = append(d.Morning, someRow(rnd, morning[stretch]))
		d.Evening = append(d.Evening, someRow(rnd, evening[stretch]))
	}
	for range rnd.Intn(api.MaxWalkLines + 1) {
		d.Lines = append(d.Lines, someLine(rnd, hidden))
	}
	return d
}

// someWalk returns a walk with morning's numbers so that rows can have those, and
// the evening's ones.
func someWalk(rnd *rand.Rand, borders int) (morning, w []int) {
	numbers := slices.Repeat([]walk.Range{to(0, api.MaxCountPlaces)}, borders+1)
	for {
		morning, w = nil, nil
		for range borders + 1 {
			morning = append(morning, rnd.Intn(api.MaxCountPlaces+1))
		}
		for range 2 * borders {
			w = append(w, rnd.Intn(2+rnd.Intn(api.MaxWalkCarry)))
		}
		if areIn(eveningOf(morning, w), numbers) {
			return morning, w
		}
	}
}

// someRow returns a row of which one truth has so many chairs, and others some
// more or less.
func someRow(rnd *rand.Rand, chairs int) count.Row {
	many := max(chairs, 1) + rnd.Intn(api.MaxCountPlaces+1-max(chairs, 1))
	var r count.Row
	for place := range many {
		r.Places = append(r.Places, 0)
		if place < chairs {
			r.Places[place] = 1
		}
	}
	rnd.Shuffle(many, func(i, j int) { r.Places[i], r.Places[j] = r.Places[j], r.Places[i] })
	hidden := slices.Clone(r.Places)
	for range rnd.Intn(4) {
		r.Places[rnd.Intn(many)] = 2
	}
	for range rnd.Intn(3) {
		addCount(rnd, &r, hidden)
	}
	return r
}

// addCount adds a count that is right in the truth, or a wrong one that is allowed.
func addCount(rnd *rand.Rand, r *count.Row, truth []int) {
	c := count.Count{Back: rnd.Intn(2) == 0, Many: rnd.Intn(len(truth) + 1)}
	c.Number = sum(truth[:c.Many])
	if c.Back {
		c.Number = sum(truth[len(truth)-c.Many:])
	}
	if c.Number > 0 && rnd.Intn(3) == 0 {
		c.Number--
		r.Wrong, r.Off = r.Wrong+1, 1
	}
	r.Counts = append(r.Counts, c)
}

// someLine returns a line that is right in the walk, or is not by a few chairs.
func someLine(rnd *rand.Rand, w []int) walk.Line {
	at := rnd.Intn(len(w))
	low := w[at] - rnd.Intn(2)
	if rnd.Intn(3) == 0 {
		low += rnd.Intn(7) - 3
	}
	return walk.Line{Border: at / 2, Left: at%2 == 1, Many: to(within(low), within(low+rnd.Intn(4)))}
}

// within returns the valid number of chairs of a line that is next to a number.
func within(n int) int { return min(max(n, 0), api.MaxWalkLine) }

// eachDay calls the function with many days, each with a generator of its own for
// what else is chosen.
func eachDay(t *testing.T, f func(t *testing.T, d walk.Day, rnd *rand.Rand)) {
	t.Helper()
	for seed := range 400 {
		rnd := rand.New(rand.NewSource(int64(seed)))
		f(t, someDay(rnd), rnd)
		if t.Failed() {
			return
		}
	}
}

// eachExplained is eachDay for the days whose counts some walk explains.
func eachExplained(t *testing.T, f func(t *testing.T, d walk.Day, rnd *rand.Rand)) {
	t.Helper()
	seen := 0
	eachDay(t, func(t *testing.T, d walk.Day, rnd *rand.Rand) {
		if isExplained(t, d) {
			seen++
			f(t, d, rnd)
		}
	})
	atLeast(t, seen, 300, "days whose counts a walk explains")
}

// eachWalked is eachDay for the days that have a walk.
func eachWalked(t *testing.T, f func(t *testing.T, d walk.Day, rnd *rand.Rand)) {
	t.Helper()
	seen := 0
	eachExplained(t, func(t *testing.T, d walk.Day, rnd *rand.Rand) {
		if hasWalk(t, d) {
			seen++
			f(t, d, rnd)
		}
	})
	atLeast(t, seen, 150, "days that have a walk")
}

// atLeast wants that a test has met enough of what it is about.
func atLeast(t *testing.T, met, wanted int, what string) {
	t.Helper()
	if !t.Failed() && met < wanted {
		t.Errorf("only %d %s", met, what)
	}
}

// isExplained reports what Leave says of a day.
func isExplained(t *testing.T, d walk.Day) bool {
	t.Helper()
	_, e := walk.Leave(d)
	if e != api.OK && e != api.ErrShort {
		t.Fatalf("Leave of %v: %v", d, e)
	}
	return e == api.OK
}

// hasWalk reports what Carried says of a day whose counts some walk explains.
func hasWalk(t *testing.T, d walk.Day) bool {
	t.Helper()
	_, e := walk.Carried(d)
	if e != api.OK && e != api.ErrFalse {
		t.Fatalf("Carried of %v: %v", d, e)
	}
	return e == api.OK
}

// The calls of a day of which the test says that they have a result.

func play(t *testing.T, d walk.Day, morning, w []int) []int {
	t.Helper()
	l, e := walk.Play(d, morning, w)
	if e != api.OK {
		t.Fatalf("Play of %v, %v, %v: %v", d, morning, w, e)
	}
	return l
}

// found returns what Chairs, Over and Carried say of a day.
func found(t *testing.T, d walk.Day) limits {
	t.Helper()
	var l limits
	var e api.Errno
	for stretch := range d.Morning {
		morning, evening, e := walk.Chairs(d, stretch)
		if e != api.OK {
			t.Fatalf("Chairs of %v, %d: %v", d, stretch, e)
		}
		l.morning, l.evening = append(l.morning, morning), append(l.evening, evening)
	}
	for border := range len(d.Morning) - 1 {
		right, left, e := walk.Over(d, border)
		if e != api.OK {
			t.Fatalf("Over of %v, %d: %v", d, border, e)
		}
		l.over = append(l.over, right, left)
	}
	if l.carried, e = walk.Carried(d); e != api.OK {
		t.Fatalf("Carried of %v: %v", d, e)
	}
	return l
}

func fewest(t *testing.T, d walk.Day) []int {
	t.Helper()
	l, e := walk.Fewest(d)
	if e != api.OK {
		t.Fatalf("Fewest of %v: %v", d, e)
	}
	return l
}

func leave(t *testing.T, d walk.Day) []int {
	t.Helper()
	l, e := walk.Leave(d)
	if e != api.OK {
		t.Fatalf("Leave of %v: %v", d, e)
	}
	return l
}

// copied returns a day that shares no memory with the given one.
func copied(d walk.Day) walk.Day {
	return walk.Day{Morning: deep(d.Morning), Evening: deep(d.Evening), Lines: slices.Clone(d.Lines)}
}

func deep(rows []count.Row) []count.Row {
	out := slices.Clone(rows)
	for i, r := range out {
		out[i].Places, out[i].Counts = slices.Clone(r.Places), slices.Clone(r.Counts)
	}
	return out
}

// without returns the day without the lines of these numbers.
func without(d walk.Day, left []int) walk.Day {
	var kept []walk.Line
	for i, l := range d.Lines {
		if !slices.Contains(left, i) {
			kept = append(kept, l)
		}
	}
	d = copied(d)
	d.Lines = kept
	return d
}

// with returns the day with one more line.
func with(d walk.Day, l walk.Line) walk.Day {
	d = copied(d)
	d.Lines = append(d.Lines, l)
	return d
}
