package count_test

import (
	"math/rand"
	"slices"
	"testing"

	"foreshore/api"
	"foreshore/count"
)

// The oracle: what the chapter defines, computed from all lists of chairs by
// the words of the definitions alone, without anything of package count but
// its types.

// lists returns all lists of n numbers 0 and 1.
func lists(n int) [][]int {
	var out [][]int
	for code := range 1 << n {
		l := make([]int, n)
		for i := range l {
			l[i] = code >> i & 1
		}
		out = append(out, l)
	}
	return out
}

func sum(l []int) int {
	n := 0
	for _, x := range l {
		n += x
	}
	return n
}

func distance(a, b int) int {
	if a < b {
		return b - a
	}
	return a - b
}

func agrees(r count.Row, truth []int) bool {
	for i, p := range r.Places {
		if p != 2 && p != truth[i] {
			return false
		}
	}
	return true
}

func errorsOf(r count.Row, truth []int) []int {
	out := []int{}
	for _, c := range r.Counts {
		about := truth[:c.Many]
		if c.Back {
			about = truth[len(truth)-c.Many:]
		}
		out = append(out, distance(c.Number, sum(about)))
	}
	return out
}

func wrongOf(r count.Row, truth []int) int {
	n := 0
	for _, e := range errorsOf(r, truth) {
		if e != 0 {
			n++
		}
	}
	return n
}

// explaining returns the truths that explain the counts.
func explaining(r count.Row) [][]int {
	var out [][]int
	for _, l := range lists(len(r.Places)) {
		if !agrees(r, l) {
			continue
		}
		if e := errorsOf(r, l); len(e) == 0 || slices.Max(e) <= r.Off {
			out = append(out, l)
		}
	}
	return out
}

// truthsOf returns the truths of the row.
func truthsOf(r count.Row) [][]int {
	var out [][]int
	for _, l := range explaining(r) {
		if wrongOf(r, l) <= r.Wrong {
			out = append(out, l)
		}
	}
	return out
}

// verdict says in how many of the truths something is so.
func verdict(truths [][]int, so func(truth []int) bool) int {
	n := 0
	for _, l := range truths {
		if so(l) {
			n++
		}
	}
	switch n {
	case len(truths):
		return count.Always
	case 0:
		return count.Never
	}
	return count.Perhaps
}

func chairsOf(truths [][]int, from, to int) count.Range {
	r := count.Range{Lo: len(truths[0]), Hi: 0}
	for _, l := range truths {
		n := sum(l[from : to+1])
		r.Lo, r.Hi = min(r.Lo, n), max(r.Hi, n)
	}
	return r
}

// split returns the truths with and without a chair at the place.
func split(truths [][]int, place int) (with, without [][]int) {
	for _, l := range truths {
		if l[place] == 1 {
			with = append(with, l)
		} else {
			without = append(without, l)
		}
	}
	return with, without
}

func lookOf(truths [][]int) (place, left int) {
	left = len(truths) + 1
	for i := range truths[0] {
		a, b := split(truths, i)
		if n := max(len(a), len(b)); n < left {
			place, left = i, n
		}
	}
	return place, left
}

func looksOf(truths [][]int, from, to int) int {
	if r := chairsOf(truths, from, to); r.Lo == r.Hi {
		return 0
	}
	best := 99
	for i := range truths[0] {
		a, b := split(truths, i)
		if len(a) > 0 && len(b) > 0 {
			best = min(best, 1+max(looksOf(a, from, to), looksOf(b, from, to)))
		}
	}
	return best
}

func row(places []int, wrong, off int, l ...count.Count) count.Row {
	return count.Row{Places: places, Counts: l, Wrong: wrong, Off: off}
}

func first(many, number int) count.Count { return count.Count{Many: many, Number: number} }

func last(many, number int) count.Count {
	return count.Count{Back: true, Many: many, Number: number}
}

// example is the row of the chapter's examples, with more counts.
func example(wrong int, l ...count.Count) count.Row {
	return row([]int{2, 2, 1, 2, 2}, wrong, 1, append([]count.Count{first(3, 2), last(3, 3)}, l...)...)
}

// someRow returns a row of so many places. Most of its counts are near what
// one list of chairs has, so that most rows have a truth.
func someRow(rnd *rand.Rand, places int) count.Row {
	hidden := make([]int, places)
	r := count.Row{Places: make([]int, places), Off: rnd.Intn(3)}
	for i := range hidden {
		hidden[i] = rnd.Intn(2)
		r.Places[i] = 2
		if rnd.Intn(4) == 0 {
			r.Places[i] = hidden[i]
		}
	}
	for range rnd.Intn(5) {
		r.Counts = append(r.Counts, someCount(rnd, hidden))
	}
	r.Wrong = rnd.Intn(len(r.Counts) + 2)
	if rnd.Intn(10) == 0 {
		r.Wrong, r.Off = rnd.Intn(api.MaxCountCounts+1), rnd.Intn(api.MaxCountPlaces+1)
	}
	return r
}

func someCount(rnd *rand.Rand, hidden []int) count.Count {
	many := rnd.Intn(len(hidden) + 1)
	if rnd.Intn(2) == 0 {
		return first(many, near(rnd, sum(hidden[:many])))
	}
	return last(many, near(rnd, sum(hidden[len(hidden)-many:])))
}

func near(rnd *rand.Rand, n int) int {
	switch rnd.Intn(8) {
	case 0:
		n++
	case 1:
		n--
	case 2:
		n += 2
	}
	return min(max(n, 0), api.MaxCountPlaces)
}

// eachRow calls the function with many rows, each with a generator of its own
// for what else is chosen. Rows of more than 6 places are rarer: the oracle
// takes long for them.
func eachRow(t *testing.T, most int, f func(t *testing.T, r count.Row, rnd *rand.Rand)) {
	t.Helper()
	for places := 1; places <= most; places++ {
		many := 120
		if places > 6 {
			many = 15
		}
		for seed := range many {
			rnd := rand.New(rand.NewSource(int64(places*1000 + seed)))
			f(t, someRow(rnd, places), rnd)
			if t.Failed() {
				return
			}
		}
	}
}

// eachTrueRow is eachRow for the rows that have a truth.
func eachTrueRow(t *testing.T, most int, f func(t *testing.T, r count.Row, rnd *rand.Rand)) {
	t.Helper()
	seen := 0
	eachRow(t, most, func(t *testing.T, r count.Row, rnd *rand.Rand) {
		if len(truthsOf(r)) > 0 {
			seen++
			f(t, r, rnd)
		}
	})
	if !t.Failed() && seen < 60 {
		t.Errorf("only %d rows have a truth", seen)
	}
}

// eachPart calls the function with each part of so many places.
func eachPart(places int, f func(from, to int)) {
	for from := range places {
		for to := from; to < places; to++ {
			f(from, to)
		}
	}
}

// The calls of a row of which the test says that they have a result.

func chairs(t *testing.T, r count.Row, from, to int) count.Range {
	t.Helper()
	n, e := count.Chairs(r, from, to)
	if e != api.OK {
		t.Fatalf("Chairs of %v, %d, %d: %v", r, from, to, e)
	}
	return n
}

func places(t *testing.T, r count.Row) []int {
	t.Helper()
	l, e := count.Places(r)
	if e != api.OK {
		t.Fatalf("Places of %v: %v", r, e)
	}
	return l
}

func right(t *testing.T, r count.Row) []int {
	t.Helper()
	l, e := count.Right(r)
	if e != api.OK {
		t.Fatalf("Right of %v: %v", r, e)
	}
	return l
}

func look(t *testing.T, r count.Row) (place, left int) {
	t.Helper()
	place, left, e := count.Look(r)
	if e != api.OK {
		t.Fatalf("Look of %v: %v", r, e)
	}
	return place, left
}

func looks(t *testing.T, r count.Row, from, to int) int {
	t.Helper()
	n, e := count.Looks(r, from, to)
	if e != api.OK {
		t.Fatalf("Looks of %v, %d, %d: %v", r, from, to, e)
	}
	return n
}

// copied returns a row that shares no memory with the given one.
func copied(r count.Row) count.Row {
	r.Places, r.Counts = slices.Clone(r.Places), slices.Clone(r.Counts)
	return r
}

// with returns the row with one more count.
func with(r count.Row, c count.Count) count.Row {
	r = copied(r)
	r.Counts = append(r.Counts, c)
	return r
}

// seen returns the row after it was seen what is at the place.
func seen(r count.Row, place, chair int) count.Row {
	r = copied(r)
	r.Places[place] = chair
	return r
}
