package tide_test

import (
	"math/rand"
	"slices"
	"testing"

	"foreshore/api"
	"foreshore/tide"
)

// The oracle: what the chapter defines, computed from all combinations of
// heights by the words of the definitions alone, without anything of package
// tide but its types.

// combinations returns all lists with one number of each range.
func combinations(ranges []tide.Range) [][]int {
	out := [][]int{nil}
	for _, r := range ranges {
		var longer [][]int
		for _, l := range out {
			for n := r.Lo; n <= r.Hi; n++ {
				longer = append(longer, append(slices.Clone(l), n))
			}
		}
		out = longer
	}
	return out
}

func distance(a, b int) int {
	if a < b {
		return b - a
	}
	return a - b
}

func keepsStep(l []int, step int) bool {
	for i := 1; i < len(l); i++ {
		if distance(l[i-1], l[i]) > step {
			return false
		}
	}
	return true
}

// listsOf returns the lists of the table.
func listsOf(t tide.Table) [][]int {
	var out [][]int
	for _, l := range combinations(t.Heights) {
		if keepsStep(l, t.Step) {
			out = append(out, l)
		}
	}
	return out
}

func isRight(m tide.Mark, l []int) bool {
	highest := slices.Max(l[m.From : m.To+1])
	return m.Highest.Lo <= highest && highest <= m.Highest.Hi
}

// rightIn returns those of the lists in which all marks are right, but for the
// ones that are left out.
func rightIn(lists [][]int, marks []tide.Mark, left ...int) [][]int {
	var out [][]int
	for _, l := range lists {
		right := true
		for i, m := range marks {
			right = right && (slices.Contains(left, i) || isRight(m, l))
		}
		if right {
			out = append(out, l)
		}
	}
	return out
}

func truthsOf(t tide.Table) [][]int { return rightIn(listsOf(t), t.Marks) }

// wetOf returns the hours in which a row of the level is wet.
func wetOf(level int, l []int) []int {
	var out []int
	for hour, height := range l {
		if height > level {
			out = append(out, hour)
		}
	}
	return out
}

// rangeOf returns the bounds of a number of all lists.
func rangeOf(lists [][]int, number func(l []int) int) tide.Range {
	var all []int
	for _, l := range lists {
		all = append(all, number(l))
	}
	return tide.Range{Lo: slices.Min(all), Hi: slices.Max(all)}
}

func boundsOf(truths [][]int) []tide.Range {
	var out []tide.Range
	for hour := range truths[0] {
		out = append(out, rangeOf(truths, func(l []int) int { return l[hour] }))
	}
	return out
}

func reachOf(truths [][]int, level int) tide.Range {
	return rangeOf(truths, func(l []int) int {
		if wet := wetOf(level, l); len(wet) > 0 {
			return wet[0]
		}
		return len(l)
	})
}

func verdictOf(truths [][]int, level, hour int) int {
	wet := 0
	for _, l := range truths {
		if l[hour] > level {
			wet++
		}
	}
	switch wet {
	case len(truths):
		return tide.Always
	case 0:
		return tide.Never
	}
	return tide.Perhaps
}

// surelyDry reports whether no truth has a height above the level in the hours.
func surelyDry(truths [][]int, from, to, level int) bool {
	for _, l := range truths {
		for hour := from; hour <= to; hour++ {
			if l[hour] > level {
				return false
			}
		}
	}
	return true
}

func dryOf(truths [][]int, from, to int) int {
	level := 0
	for !surelyDry(truths, from, to, level) {
		level++
	}
	return level
}

// firstOf returns the first wrong mark, or -1.
func firstOf(t tide.Table) int {
	lists := listsOf(t)
	for n := range t.Marks {
		if len(rightIn(lists, t.Marks[:n+1])) == 0 {
			return n
		}
	}
	return -1
}

// subsets returns all increasing lists of numbers from 0 to n-1, the shorter
// ones first, those of one length in their lexicographic order.
func subsets(n int) [][]int {
	var out [][]int
	for code := range 1 << n {
		var l []int
		for i := range n {
			if code>>i&1 == 1 {
				l = append(l, i)
			}
		}
		out = append(out, l)
	}
	slices.SortFunc(out, func(a, b []int) int {
		if len(a) != len(b) {
			return len(a) - len(b)
		}
		return slices.Compare(a, b)
	})
	return out
}

// leaveOf returns the smallest set.
func leaveOf(t tide.Table) []int {
	lists := listsOf(t)
	for _, l := range subsets(len(t.Marks)) {
		if len(rightIn(lists, t.Marks, l...)) > 0 {
			return l
		}
	}
	panic("the table has no list")
}

func to(low, high int) tide.Range { return tide.Range{Lo: low, Hi: high} }

func ranges(l ...int) []tide.Range {
	var out []tide.Range
	for i := 0; i < len(l); i += 2 {
		out = append(out, to(l[i], l[i+1]))
	}
	return out
}

func mark(from, till, low, high int) tide.Mark {
	return tide.Mark{From: from, To: till, Highest: to(low, high)}
}

// example is the table of the chapter's examples, with marks.
func example(l ...tide.Mark) tide.Table {
	return tide.Table{Last: 3, Heights: ranges(2, 4, 5, 6, 8, 9, 4, 5), Step: 4, Levels: []int{5, 3, 8}, Marks: l}
}

// someTable returns a table that has one list, near which most of its marks
// are, so that many tables have a truth, and many have none.
func someTable(rnd *rand.Rand) tide.Table {
	t := tide.Table{Last: rnd.Intn(api.MaxTideLast + 1), Step: rnd.Intn(5)}
	base, size := rnd.Intn(80), 1
	hidden := []int{base + 8}
	for len(hidden) <= t.Last {
		hidden = append(hidden, within(hidden[len(hidden)-1]+rnd.Intn(2*t.Step+1)-t.Step))
	}
	for _, height := range hidden {
		r := to(within(height-rnd.Intn(3)), within(height+rnd.Intn(3)))
		if wider := size * (r.Hi - r.Lo + 1); wider <= 300 {
			size = wider
		} else {
			r = to(height, height)
		}
		t.Heights = append(t.Heights, r)
	}
	for range rnd.Intn(api.MaxTideRows + 1) {
		t.Levels = append(t.Levels, within(hidden[rnd.Intn(len(hidden))]+rnd.Intn(5)-2))
	}
	for range rnd.Intn(api.MaxTideMarks + 1) {
		t.Marks = append(t.Marks, someMark(rnd, hidden))
	}
	return t
}

func someMark(rnd *rand.Rand, hidden []int) tide.Mark {
	from := rnd.Intn(len(hidden))
	till := from + rnd.Intn(len(hidden)-from)
	low := slices.Max(hidden[from : till+1])
	if rnd.Intn(3) == 0 {
		low += rnd.Intn(7) - 3
	}
	return mark(from, till, within(low), within(low+rnd.Intn(2)))
}

// within returns the valid height that is next to a number.
func within(n int) int { return min(max(n, 0), api.MaxTideHeight) }

// eachTable calls the function with many tables, each with a generator of its
// own for what else is chosen.
func eachTable(t *testing.T, f func(t *testing.T, x tide.Table, rnd *rand.Rand)) {
	t.Helper()
	for seed := range 500 {
		rnd := rand.New(rand.NewSource(int64(seed)))
		f(t, someTable(rnd), rnd)
		if t.Failed() {
			return
		}
	}
}

// eachTrueTable is eachTable for the tables that have a truth.
func eachTrueTable(t *testing.T, f func(t *testing.T, x tide.Table, rnd *rand.Rand)) {
	t.Helper()
	seen := 0
	eachTable(t, func(t *testing.T, x tide.Table, rnd *rand.Rand) {
		if len(truthsOf(x)) > 0 {
			seen++
			f(t, x, rnd)
		}
	})
	atLeast(t, seen, 100, "tables that have a truth")
}

// atLeast wants that a test has met enough of what it is about.
func atLeast(t *testing.T, met, wanted int, what string) {
	t.Helper()
	if !t.Failed() && met < wanted {
		t.Errorf("only %d %s", met, what)
	}
}

// eachSpan calls the function with all hours from one to another one.
func eachSpan(x tide.Table, f func(from, to int)) {
	for from := range x.Last + 1 {
		for to := from; to <= x.Last; to++ {
			f(from, to)
		}
	}
}

// eachRowAndHour calls the function with each row and each hour.
func eachRowAndHour(x tide.Table, f func(row, hour int)) {
	for row := range x.Levels {
		for hour := range x.Last + 1 {
			f(row, hour)
		}
	}
}

// The calls of a table of which the test says that they have a result.

func play(t *testing.T, x tide.Table, heights []int) [][]int {
	t.Helper()
	l, e := tide.Play(x, heights)
	if e != api.OK {
		t.Fatalf("Play of %v, %v: %v", x, heights, e)
	}
	return l
}

func bounds(t *testing.T, x tide.Table) []tide.Range {
	t.Helper()
	l, e := tide.Bounds(x)
	if e != api.OK {
		t.Fatalf("Bounds of %v: %v", x, e)
	}
	return l
}

func wet(t *testing.T, x tide.Table, row, hour int) int {
	t.Helper()
	n, e := tide.Wet(x, row, hour)
	if e != api.OK {
		t.Fatalf("Wet of %v, %d, %d: %v", x, row, hour, e)
	}
	return n
}

func reach(t *testing.T, x tide.Table, row int) tide.Range {
	t.Helper()
	r, e := tide.Reach(x, row)
	if e != api.OK {
		t.Fatalf("Reach of %v, %d: %v", x, row, e)
	}
	return r
}

func dry(t *testing.T, x tide.Table, from, to int) int {
	t.Helper()
	n, e := tide.Dry(x, from, to)
	if e != api.OK {
		t.Fatalf("Dry of %v, %d, %d: %v", x, from, to, e)
	}
	return n
}

func leave(t *testing.T, x tide.Table) []int {
	t.Helper()
	l, e := tide.Leave(x)
	if e != api.OK {
		t.Fatalf("Leave of %v: %v", x, e)
	}
	return l
}

// copied returns a table that shares no memory with the given one.
func copied(x tide.Table) tide.Table {
	x.Heights, x.Levels, x.Marks = slices.Clone(x.Heights), slices.Clone(x.Levels), slices.Clone(x.Marks)
	return x
}

// without returns the table without the marks of these numbers.
func without(x tide.Table, left []int) tide.Table {
	var kept []tide.Mark
	for i, m := range x.Marks {
		if !slices.Contains(left, i) {
			kept = append(kept, m)
		}
	}
	x = copied(x)
	x.Marks = kept
	return x
}

// with returns the table with one more mark.
func with(x tide.Table, m tide.Mark) tide.Table {
	x = copied(x)
	x.Marks = append(x.Marks, m)
	return x
}
