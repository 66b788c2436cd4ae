package dry_test

import (
	"math/rand"
	"slices"
	"testing"

	"foreshore/api"
	"foreshore/dry"
	"foreshore/tide"
)

// The oracle: what the chapter defines, computed from all combinations of heights
// and all orders by the words of the definitions alone, without anything of the
// packages dry and tide but their types.

// combinations returns all lists with one number of each range.
func combinations(ranges []tide.Range) [][]int {
	out := [][]int{nil}
	for _, r := range ranges {
		var longer [][]int
		for _, l := range out {
			for n := r.Lo; n <= r.Hi; n++ {
				longer = append(longer, append(slices.Clone(l), n))
			}
		}
		out = longer
	}
	return out
}

// isList reports whether the heights are a list of the table.
func isList(t tide.Table, heights []int) bool {
	if len(heights) != t.Last+1 {
		return false
	}
	for hour, n := range heights {
		if n < t.Heights[hour].Lo || n > t.Heights[hour].Hi {
			return false
		}
		if hour > 0 && (n-heights[hour-1] > t.Step || heights[hour-1]-n > t.Step) {
			return false
		}
	}
	return true
}

func marksAreRight(t tide.Table, heights []int) bool {
	return !slices.ContainsFunc(t.Marks, func(m tide.Mark) bool {
		highest := slices.Max(heights[m.From : m.To+1])
		return highest < m.Highest.Lo || highest > m.Highest.Hi
	})
}

// tidesOf returns the truths of the yard's table.
func tidesOf(y dry.Yard) [][]int {
	var out [][]int
	for _, l := range combinations(y.Table.Heights) {
		if isList(y.Table, l) && marksAreRight(y.Table, l) {
			out = append(out, l)
		}
	}
	return out
}

// inside returns the chairs that have been brought in at the beginning of the hour,
// or before it.
func inside(y dry.Yard, order []int, hour int) []int {
	left := slices.Clone(order)
	var in []int
	for range hour + 1 {
		next := min(y.Hands, len(left))
		in = append(in, left[:next]...)
		left = left[next:]
	}
	return in
}

// isWet reports whether the chair is wet in the hour.
func isWet(y dry.Yard, order, heights []int, chair, hour int) bool {
	return heights[hour] > y.Table.Levels[y.Chairs[chair].Row] && !slices.Contains(inside(y, order, hour), chair)
}

// rotsOf returns the hour in which a chair rots that is wet in these hours.
func rotsOf(c dry.Chair, wet []bool) int {
	for hour := range wet {
		breaks := 0
		for before := range c.Rot {
			if before > hour || !wet[hour-before] {
				breaks++
			}
		}
		if breaks == 0 {
			return hour
		}
	}
	return len(wet)
}

// canBeHired reports whether the chair can be hired in the hour.
func canBeHired(c dry.Chair, wet []bool, hour int) bool {
	if wet[hour] || rotsOf(c, wet) <= hour {
		return false
	}
	for last := hour - 1; last >= 0; last-- {
		if wet[last] {
			return hour-last > c.Hours
		}
	}
	return true
}

// wetOf returns of each hour whether the chair is wet.
func wetOf(y dry.Yard, order, heights []int, chair int) []bool {
	var wet []bool
	for hour := range heights {
		wet = append(wet, isWet(y, order, heights, chair, hour))
	}
	return wet
}

// stayOf returns the stay of a chair.
func stayOf(y dry.Yard, order, heights []int, chair int) dry.Stay {
	c, wet := y.Chairs[chair], wetOf(y, order, heights, chair)
	s := dry.Stay{Rot: rotsOf(c, wet)}
	for hour, is := range wet {
		if is {
			s.Wet++
		}
		if canBeHired(c, wet, hour) {
			s.Free = append(s.Free, hour)
		}
	}
	return s
}

func staysOf(y dry.Yard, order, heights []int) []dry.Stay {
	var out []dry.Stay
	for chair := range y.Chairs {
		out = append(out, stayOf(y, order, heights, chair))
	}
	return out
}

// isRight reports whether the hire is right.
func isRight(y dry.Yard, heights []int, h dry.Hire) bool {
	return slices.Contains(stayOf(y, y.Order, heights, h.Chair).Free, h.Hour)
}

// rightIn returns those of the heights with which all hires of the yard are right,
// but for the ones that are left out.
func rightIn(y dry.Yard, tides [][]int, left ...int) [][]int {
	var out [][]int
	for _, heights := range tides {
		right := true
		for i, h := range y.Hires {
			right = right && (slices.Contains(left, i) || isRight(y, heights, h))
		}
		if right {
			out = append(out, heights)
		}
	}
	return out
}

// truthsOf returns the truths of the yard.
func truthsOf(y dry.Yard) [][]int { return rightIn(y, tidesOf(y)) }

func verdictOf(y dry.Yard, truths [][]int, order []int, chair, hour int) int {
	free := 0
	for _, heights := range truths {
		if canBeHired(y.Chairs[chair], wetOf(y, order, heights, chair), hour) {
			free++
		}
	}
	switch free {
	case len(truths):
		return dry.Always
	case 0:
		return dry.Never
	}
	return dry.Perhaps
}

func hoursOf(y dry.Yard, truths [][]int, order []int, chair int) dry.Range {
	var all []int
	for _, heights := range truths {
		all = append(all, len(stayOf(y, order, heights, chair).Free))
	}
	return to(slices.Min(all), slices.Max(all))
}

// rotten returns how many chairs rot.
func rotten(y dry.Yard, order, heights []int) int {
	many := 0
	for chair, c := range y.Chairs {
		if rotsOf(c, wetOf(y, order, heights, chair)) < len(heights) {
			many++
		}
	}
	return many
}

func lossOf(y dry.Yard, truths [][]int, order []int) int {
	loss := 0
	for _, heights := range truths {
		loss = max(loss, rotten(y, order, heights))
	}
	return loss
}

// allOrders returns all orders of so many chairs, of all lengths.
func allOrders(chairs int) [][]int {
	out := [][]int{nil}
	for i := 0; i < len(out); i++ {
		for chair := range chairs {
			if !slices.Contains(out[i], chair) {
				out = append(out, append(slices.Clone(out[i]), chair))
			}
		}
	}
	return out
}

func leastLossOf(y dry.Yard, truths [][]int) int {
	least := len(y.Chairs)
	for _, order := range allOrders(len(y.Chairs)) {
		least = min(least, lossOf(y, truths, order))
	}
	return least
}

// firstOf returns the first wrong hire, or -1.
func firstOf(y dry.Yard) int {
	tides := tidesOf(y)
	for n := range y.Hires {
		upTo := y
		upTo.Hires = y.Hires[:n+1]
		if len(rightIn(upTo, tides)) == 0 {
			return n
		}
	}
	return -1
}

// subsets returns all increasing lists of numbers from 0 to n-1, the shorter
// ones first, those of one length in their lexicographic order.
func subsets(n int) [][]int {
	var out [][]int
	for code := range 1 << n {
		var l []int
		for i := range n {
			if code>>i&1 == 1 {
				l = append(l, i)
			}
		}
		out = append(out, l)
	}
	slices.SortFunc(out, func(a, b []int) int {
		if len(a) != len(b) {
			return len(a) - len(b)
		}
		return slices.Compare(a, b)
	})
	return out
}

// leaveOf returns the smallest set.
func leaveOf(y dry.Yard) []int {
	tides := tidesOf(y)
	for _, l := range subsets(len(y.Hires)) {
		if len(rightIn(y, tides, l...)) > 0 {
			return l
		}
	}
	panic("the table has no truth")
}

func list(l ...int) []int { return l }

func to(low, high int) dry.Range { return dry.Range{Lo: low, Hi: high} }

func ranges(l ...int) []tide.Range {
	var out []tide.Range
	for i := 0; i < len(l); i += 2 {
		out = append(out, tide.Range{Lo: l[i], Hi: l[i+1]})
	}
	return out
}

func mark(from, till, low, high int) tide.Mark {
	return tide.Mark{From: from, To: till, Highest: tide.Range{Lo: low, Hi: high}}
}

// hires returns hires of chairs in hours.
func hires(l ...int) []dry.Hire {
	var out []dry.Hire
	for i := 0; i < len(l); i += 2 {
		out = append(out, dry.Hire{Chair: l[i], Hour: l[i+1]})
	}
	return out
}

// example is the yard of the chapter's examples, with hires.
func example(l ...int) dry.Yard {
	return dry.Yard{
		Table:  tide.Table{Last: 3, Heights: ranges(2, 4, 5, 6, 8, 9, 4, 5), Step: 4, Levels: list(5, 3, 8)},
		Hands:  1,
		Chairs: []dry.Chair{{Row: 0, Hours: 1, Rot: 2}, {Row: 1, Hours: 1, Rot: 2}, {Row: 2, Hours: 2, Rot: 1}},
		Hires:  hires(l...),
	}
}

// someYard returns a yard whose table has a truth, with which most of the hires are
// right, so that many yards have a truth, and many have none.
func someYard(rnd *rand.Rand) dry.Yard {
	for {
		y := dry.Yard{Hands: rnd.Intn(2)}
		if rnd.Intn(2) == 0 {
			y.Hands = rnd.Intn(api.MaxDryHands + 1)
		}
		var hidden []int
		y.Table, hidden = someTable(rnd)
		for range min(rnd.Intn(2*api.MaxDryChairs), api.MaxDryChairs) {
			y.Chairs = append(y.Chairs, someChair(rnd, y.Table))
		}
		y.Order = someOrder(rnd, len(y.Chairs))
		for range rnd.Intn(api.MaxDryHires + 1) {
			if len(y.Chairs) > 0 {
				y.Hires = append(y.Hires, someHire(rnd, y, hidden))
			}
		}
		if len(tidesOf(y)) > 0 {
			return y
		}
	}
}

// someTable returns a table, and a list of it.
func someTable(rnd *rand.Rand) (tide.Table, []int) {
	t := tide.Table{Last: rnd.Intn(api.MaxTideLast + 1), Step: rnd.Intn(5)}
	hidden := list(8 + rnd.Intn(80))
	for len(hidden) <= t.Last {
		hidden = append(hidden, within(hidden[len(hidden)-1]+rnd.Intn(2*t.Step+1)-t.Step))
	}
	size := 1
	for _, height := range hidden {
		low, high := within(height-rnd.Intn(3)), within(height+rnd.Intn(3))
		if wider := size * (high - low + 1); wider <= 60 {
			size = wider
		} else {
			low, high = height, height
		}
		t.Heights = append(t.Heights, tide.Range{Lo: low, Hi: high})
	}
	for range 1 + rnd.Intn(api.MaxTideRows) {
		t.Levels = append(t.Levels, within(hidden[rnd.Intn(len(hidden))]+rnd.Intn(5)-3))
	}
	for range rnd.Intn(3) {
		t.Marks = append(t.Marks, someMark(rnd, hidden))
	}
	return t, hidden
}

func someMark(rnd *rand.Rand, hidden []int) tide.Mark {
	from := rnd.Intn(len(hidden))
	till := from + rnd.Intn(len(hidden)-from)
	high := slices.Max(hidden[from : till+1])
	return mark(from, till, within(high-rnd.Intn(2)), within(high+rnd.Intn(2)))
}

func someChair(rnd *rand.Rand, t tide.Table) dry.Chair {
	c := dry.Chair{Row: rnd.Intn(len(t.Levels)), Hours: rnd.Intn(api.MaxDryHours + 1), Rot: 1 + rnd.Intn(api.MaxDryRot)}
	if rnd.Intn(3) > 0 {
		c.Hours, c.Rot = rnd.Intn(3), 1+rnd.Intn(3)
	}
	return c
}

func someOrder(rnd *rand.Rand, chairs int) []int { return rnd.Perm(chairs)[:rnd.Intn(chairs+1)] }

// someHire returns a hire that is often right with the heights.
func someHire(rnd *rand.Rand, y dry.Yard, heights []int) dry.Hire {
	chair := rnd.Intn(len(y.Chairs))
	if free := stayOf(y, y.Order, heights, chair).Free; len(free) > 0 && rnd.Intn(3) > 0 {
		return dry.Hire{Chair: chair, Hour: free[rnd.Intn(len(free))]}
	}
	return dry.Hire{Chair: chair, Hour: rnd.Intn(len(heights))}
}

// within returns the valid height that is next to a number.
func within(n int) int { return min(max(n, 0), api.MaxTideHeight) }

// eachYard calls the function with many yards, each with a generator of its own for
// what else is chosen.
func eachYard(t *testing.T, f func(t *testing.T, y dry.Yard, rnd *rand.Rand)) {
	t.Helper()
	for seed := range 500 {
		rnd := rand.New(rand.NewSource(int64(seed)))
		f(t, someYard(rnd), rnd)
		if t.Failed() {
			return
		}
	}
}

// eachTrue is eachYard for the yards that have a truth, with the truths.
func eachTrue(t *testing.T, f func(t *testing.T, y dry.Yard, truths [][]int, rnd *rand.Rand)) {
	t.Helper()
	seen := 0
	eachYard(t, func(t *testing.T, y dry.Yard, rnd *rand.Rand) {
		if truths := truthsOf(y); len(truths) > 0 {
			seen++
			f(t, y, truths, rnd)
		}
	})
	atLeast(t, seen, 250, "yards that have a truth")
}

// atLeast wants that a test has met enough of what it is about.
func atLeast(t *testing.T, met, wanted int, what string) {
	t.Helper()
	if !t.Failed() && met < wanted {
		t.Errorf("only %d %s", met, what)
	}
}

// The calls of a yard of which the test says that they have a result.

func play(t *testing.T, y dry.Yard, order, heights []int) []dry.Stay {
	t.Helper()
	l, e := dry.Play(y, order, heights)
	if e != api.OK {
		t.Fatalf("Play of %v, %v, %v: %v", y, order, heights, e)
	}
	return l
}

func free(t *testing.T, y dry.Yard, order []int, chair, hour int) int {
	t.Helper()
	n, e := dry.Free(y, order, chair, hour)
	if e != api.OK {
		t.Fatalf("Free of %v, %v, %d, %d: %v", y, order, chair, hour, e)
	}
	return n
}

// verdicts returns what Free says of all hours.
func verdicts(t *testing.T, y dry.Yard, order []int, chair int) []int {
	t.Helper()
	var out []int
	for hour := range y.Table.Last + 1 {
		out = append(out, free(t, y, order, chair, hour))
	}
	return out
}

func hours(t *testing.T, y dry.Yard, order []int, chair int) dry.Range {
	t.Helper()
	r, e := dry.Hours(y, order, chair)
	if e != api.OK {
		t.Fatalf("Hours of %v, %v, %d: %v", y, order, chair, e)
	}
	return r
}

func lost(t *testing.T, y dry.Yard, order []int) (int, []int) {
	t.Helper()
	n, worst, e := dry.Lost(y, order)
	if e != api.OK {
		t.Fatalf("Lost of %v, %v: %v", y, order, e)
	}
	return n, worst
}

func best(t *testing.T, y dry.Yard) ([]int, int) {
	t.Helper()
	order, n, e := dry.Best(y)
	if e != api.OK {
		t.Fatalf("Best of %v: %v", y, e)
	}
	return order, n
}

func leave(t *testing.T, y dry.Yard) []int {
	t.Helper()
	l, e := dry.Leave(y)
	if e != api.OK {
		t.Fatalf("Leave of %v: %v", y, e)
	}
	return l
}

// hasTruth reports what Lost says of a yard.
func hasTruth(t *testing.T, y dry.Yard) bool {
	t.Helper()
	_, _, e := dry.Lost(y, nil)
	if e != api.OK && e != api.ErrFalse {
		t.Fatalf("Lost of %v: %v", y, e)
	}
	return e == api.OK
}

func sameStay(a, b dry.Stay) bool {
	return a.Wet == b.Wet && a.Rot == b.Rot && slices.Equal(a.Free, b.Free)
}

func sameStays(a, b []dry.Stay) bool { return slices.EqualFunc(a, b, sameStay) }

// copied returns a yard that shares no memory with the given one.
func copied(y dry.Yard) dry.Yard {
	y.Table.Heights, y.Table.Levels, y.Table.Marks = slices.Clone(y.Table.Heights), slices.Clone(y.Table.Levels), slices.Clone(y.Table.Marks)
	y.Chairs, y.Order, y.Hires = slices.Clone(y.Chairs), slices.Clone(y.Order), slices.Clone(y.Hires)
	return y
}

// without returns the yard without the hires of these numbers.
func without(y dry.Yard, left []int) dry.Yard {
	var kept []dry.Hire
	for i, h := range y.Hires {
		if !slices.Contains(left, i) {
			kept = append(kept, h)
		}
	}
	y = copied(y)
	y.Hires = kept
	return y
}
