package row_test

import (
	"math/rand"
	"slices"
	"testing"

	"foreshore/api"
	"foreshore/row"
	"foreshore/tide"
)

// The oracle: what the chapter defines, computed from all lists of heights and all
// lists of moves by the words of the definitions alone, without anything of the
// packages row and tide but their types.

// isList reports whether the heights are a list of the table.
func isList(t tide.Table, heights []int) bool {
	if len(heights) != t.Last+1 {
		return false
	}
	for hour, n := range heights {
		if n < t.Heights[hour].Lo || n > t.Heights[hour].Hi {
			return false
		}
		if hour > 0 && (n-heights[hour-1] > t.Step || heights[hour-1]-n > t.Step) {
			return false
		}
	}
	return true
}

// isTruth reports whether the list of a table is a truth of it.
func isTruth(t tide.Table, heights []int) bool {
	return !slices.ContainsFunc(t.Marks, func(m tide.Mark) bool {
		highest := slices.Max(heights[m.From : m.To+1])
		return highest < m.Highest.Lo || highest > m.Highest.Hi
	})
}

// listsOf returns all lists of the table.
func listsOf(t tide.Table) [][]int {
	out := [][]int{nil}
	for _, r := range t.Heights {
		var longer [][]int
		for _, l := range out {
			for n := r.Lo; n <= r.Hi; n++ {
				longer = append(longer, append(slices.Clone(l), n))
			}
		}
		out = longer
	}
	return slices.DeleteFunc(out, func(l []int) bool { return !isList(t, l) })
}

// truthsOf returns the truths of the table.
func truthsOf(t tide.Table) [][]int {
	return slices.DeleteFunc(listsOf(t), func(l []int) bool { return !isTruth(t, l) })
}

// moved returns where the rows are after the moves of an hour, and whether all of them
// are possible.
func moved(b row.Beach, where []int, moves []row.Move) ([]int, bool) {
	where = slices.Clone(where)
	for _, m := range moves {
		if m.Row < 0 || m.Row >= len(b.Rows) || m.To < 0 || m.To >= len(b.Table.Levels) {
			return nil, false
		}
		for other, strip := range where {
			if other != m.Row && strip == m.To {
				return nil, false
			}
		}
		if way := m.To - where[m.Row]; way*way != 1 {
			return nil, false
		}
		where[m.Row] = m.To
	}
	return where, len(moves) <= b.Hands
}

// playOf returns where the rows are in each hour, and whether the plan is one.
func playOf(b row.Beach, plan [][]row.Move) ([][]int, bool) {
	var out [][]int
	where := b.Rows
	for _, moves := range plan {
		next, ok := moved(b, where, moves)
		if !ok {
			return nil, false
		}
		where = next
		out = append(out, where)
	}
	return out, len(out) == b.Table.Last+1
}

// wetAt returns the rows on these strips that are wet with the sea at the height.
func wetAt(b row.Beach, where []int, height int) []int {
	var out []int
	for n, strip := range where {
		if b.Table.Levels[strip] < height {
			out = append(out, n)
		}
	}
	return out
}

// wetOf returns the rows that are wet in each hour.
func wetOf(b row.Beach, played [][]int, heights []int) [][]int {
	var out [][]int
	for hour, where := range played {
		out = append(out, wetAt(b, where, heights[hour]))
	}
	return out
}

// firstWet returns the first hour in which a row is wet in some of the truths, and the
// minimum number of such a row; or the hour after the last one.
func firstWet(b row.Beach, played, truths [][]int) (hour, n int) {
	for hour, where := range played {
		least := len(b.Rows)
		for _, heights := range truths {
			for _, n := range wetAt(b, where, heights[hour]) {
				least = min(least, n)
			}
		}
		if least < len(b.Rows) {
			return hour, least
		}
	}
	return b.Table.Last + 1, 0
}

// safeOf returns whether a plan is safe.
func safeOf(b row.Beach, played, truths [][]int) int {
	safe := 0
	for _, heights := range truths {
		if all := slices.Concat(wetOf(b, played, heights)...); len(all) == 0 {
			safe++
		}
	}
	switch safe {
	case len(truths):
		return row.Always
	case 0:
		return row.Never
	}
	return row.Perhaps
}

func stepsOf(plan [][]row.Move) int { return len(slices.Concat(plan...)) }

// turn is a list of moves of an hour, and where the rows are after it.
type turn struct {
	moves []row.Move
	where []int
}

// turnsOf returns all lists of moves that are possible in an hour, the shorter ones
// first.
func turnsOf(b row.Beach, where []int) []turn {
	out := []turn{{nil, where}}
	for i := 0; i < len(out); i++ {
		for n := range b.Rows {
			for to := range b.Table.Levels {
				m := row.Move{Row: n, To: to}
				moves := append(slices.Clone(out[i].moves), m)
				if next, ok := moved(b, out[i].where, []row.Move{m}); ok && len(moves) <= b.Hands {
					out = append(out, turn{moves, next})
				}
			}
		}
	}
	return out
}

// outlook says for how many hours rows can be kept dry, and with how many steps.
type outlook struct{ hours, steps int }

// bestOf returns the longest time, and the fewest steps that it takes.
func bestOf(b row.Beach) outlook {
	truths, turns, known := truthsOf(b.Table), map[[3]int][]turn{}, map[[4]int]outlook{}
	var from func(hour int, where []int) outlook
	from = func(hour int, where []int) outlook {
		var here [3]int
		copy(here[:], where)
		key := [4]int{hour, here[0], here[1], here[2]}
		if o, met := known[key]; met || hour > b.Table.Last {
			return o
		}
		if turns[here] == nil {
			turns[here] = turnsOf(b, where)
		}
		var best outlook
		for _, x := range turns[here] {
			if isWetInSome(b, truths, x.where, hour) {
				continue
			}
			o := from(hour+1, x.where)
			o.hours, o.steps = o.hours+1, o.steps+len(x.moves)
			if o.hours > best.hours || o.hours == best.hours && o.steps < best.steps {
				best = o
			}
		}
		known[key] = best
		return best
	}
	return from(0, b.Rows)
}

// isWetInSome reports whether some row on these strips is wet in the hour in some truth.
func isWetInSome(b row.Beach, truths [][]int, where []int, hour int) bool {
	lowest := api.MaxTideHeight
	for _, strip := range where {
		lowest = min(lowest, b.Table.Levels[strip])
	}
	return slices.ContainsFunc(truths, func(heights []int) bool { return heights[hour] > lowest })
}

// doomedOf returns the rows that are doomed.
func doomedOf(b row.Beach) []int {
	var out []int
	for n := range b.Rows {
		if bestOf(alone(b, n)).hours <= b.Table.Last {
			out = append(out, n)
		}
	}
	return out
}

// alone returns the beach that has this row alone.
func alone(b row.Beach, n int) row.Beach {
	b.Rows = list(b.Rows[n])
	return b
}

// allPlans calls the function with all plans, until it returns false.
func allPlans(b row.Beach, f func(plan [][]row.Move) bool) {
	var choose func(plan [][]row.Move, where []int) bool
	choose = func(plan [][]row.Move, where []int) bool {
		if len(plan) > b.Table.Last {
			return f(plan)
		}
		for _, x := range turnsOf(b, where) {
			if !choose(append(slices.Clone(plan), x.moves), x.where) {
				return false
			}
		}
		return true
	}
	choose(nil, b.Rows)
}

func list(l ...int) []int { return l }

func lists(l ...[]int) [][]int { return l }

func ranges(l ...int) []tide.Range {
	var out []tide.Range
	for i := 0; i < len(l); i += 2 {
		out = append(out, tide.Range{Lo: l[i], Hi: l[i+1]})
	}
	return out
}

func mark(from, till, low, high int) tide.Mark {
	return tide.Mark{From: from, To: till, Highest: tide.Range{Lo: low, Hi: high}}
}

// moves returns the moves of an hour: rows and strips.
func moves(l ...int) []row.Move {
	var out []row.Move
	for i := 0; i < len(l); i += 2 {
		out = append(out, row.Move{Row: l[i], To: l[i+1]})
	}
	return out
}

func plan(l ...[]row.Move) [][]row.Move { return l }

// still is the plan without any move.
func still(b row.Beach) [][]row.Move { return make([][]row.Move, b.Table.Last+1) }

// example is the beach of the chapter's examples, with so many hands.
func example(hands int) row.Beach {
	t := tide.Table{Last: 3, Heights: ranges(2, 4, 5, 6, 8, 9, 4, 5), Step: 4, Levels: list(4, 5, 6, 9, 9)}
	return row.Beach{Table: t, Hands: hands, Rows: list(0, 1)}
}

// back is the plan p of the chapter's examples.
func back() [][]row.Move { return plan(moves(1, 2, 1, 3), moves(0, 1, 0, 2), moves(1, 4, 0, 3), nil) }

// known returns a beach with a tide that is known.
func known(hands int, heights, levels []int, rows ...int) row.Beach {
	t := tide.Table{Last: len(heights) - 1, Step: 99, Levels: levels}
	for _, n := range heights {
		t.Heights = append(t.Heights, tide.Range{Lo: n, Hi: n})
	}
	return row.Beach{Table: t, Hands: hands, Rows: rows}
}

// someBeach returns a beach whose table has a truth, and whose rows are mostly dry in
// the first hour and wet in others, so that many beaches have plans that are safe
// always, with some steps, and many have none.
func someBeach(rnd *rand.Rand) row.Beach {
	for {
		b := row.Beach{Hands: rnd.Intn(api.MaxRowHands + 1), Table: someTable(rnd)}
		strips := rnd.Perm(len(b.Table.Levels))
		if rnd.Intn(4) > 0 {
			slices.SortStableFunc(strips, func(m, n int) int { return rank(b.Table, m) - rank(b.Table, n) })
		}
		b.Rows = strips[:min(rnd.Intn(8), api.MaxRowRows, len(strips))]
		if len(truthsOf(b.Table)) > 0 {
			return b
		}
	}
}

// rank is smaller the more there is to do with a row on the strip.
func rank(t tide.Table, strip int) int {
	level, highest := t.Levels[strip], 0
	for _, r := range t.Heights {
		highest = max(highest, r.Hi)
	}
	switch {
	case level < t.Heights[0].Hi:
		return 2
	case level < highest:
		return 0
	}
	return 1
}

// someTable returns a table in which the sea often rises, and the strips do, too, and
// often some of them are never wet.
func someTable(rnd *rand.Rand) tide.Table {
	t := tide.Table{Last: min(rnd.Intn(14), api.MaxTideLast), Step: min(rnd.Intn(9), 3)}
	up := 1 + rnd.Intn(5)
	hidden := list(8 + rnd.Intn(60))
	for len(hidden) <= t.Last {
		by := min(rnd.Intn(up*t.Step+t.Step+1)-t.Step, t.Step)
		hidden = append(hidden, within(hidden[len(hidden)-1]+by))
	}
	size := 1
	for _, height := range hidden {
		low, high := within(height-rnd.Intn(3)), within(height+rnd.Intn(3))
		if wider := size * (high - low + 1); wider <= 60 {
			size = wider
		} else {
			low, high = height, height
		}
		t.Heights = append(t.Heights, tide.Range{Lo: low, Hi: high})
	}
	t.Levels = someLevels(rnd, hidden)
	for range rnd.Intn(3) {
		t.Marks = append(t.Marks, someMark(rnd, hidden))
	}
	return t
}

// someLevels returns levels near the heights: often those of later hours are farther
// back, and some of the last strips are never wet.
func someLevels(rnd *rand.Rand, heights []int) []int {
	var out []int
	many := min(rnd.Intn(3*api.MaxTideRows), api.MaxTideRows)
	shore := rnd.Intn(4) > 0
	for n := range many {
		hour := rnd.Intn(len(heights))
		if shore {
			hour = n * len(heights) / many
		}
		out = append(out, within(heights[hour]+rnd.Intn(4)-1))
	}
	for n := 2 + rnd.Intn(6); n < many; n++ {
		out[n] = within(slices.Max(heights) + 2)
	}
	return out
}

func someMark(rnd *rand.Rand, hidden []int) tide.Mark {
	from := rnd.Intn(len(hidden))
	till := from + rnd.Intn(len(hidden)-from)
	high := slices.Max(hidden[from : till+1])
	return mark(from, till, within(high-rnd.Intn(2)), within(high+rnd.Intn(2)))
}

// within returns the valid height that is next to a number.
func within(n int) int { return min(max(n, 0), api.MaxTideHeight) }

// somePlan returns a plan that often keeps rows dry: of some turns of each hour the one
// after which the lowest row is the highest.
func somePlan(rnd *rand.Rand, b row.Beach) [][]row.Move {
	var out [][]row.Move
	where := b.Rows
	for range b.Table.Last + 1 {
		best := someTurn(rnd, b, where)
		for range rnd.Intn(6) {
			if x := someTurn(rnd, b, where); lowest(b, x.where) > lowest(b, best.where) {
				best = x
			}
		}
		out, where = append(out, best.moves), best.where
	}
	return out
}

// someTurn returns some moves that are possible in an hour.
func someTurn(rnd *rand.Rand, b row.Beach, where []int) turn {
	out := turn{nil, where}
	for range rnd.Intn(2*b.Hands + 1) {
		if len(b.Rows) == 0 || len(out.moves) == b.Hands {
			break
		}
		n := rnd.Intn(len(b.Rows))
		m := row.Move{Row: n, To: out.where[n] + 2*rnd.Intn(2) - 1}
		if next, ok := moved(b, out.where, []row.Move{m}); ok {
			out = turn{append(out.moves, m), next}
		}
	}
	return out
}

func lowest(b row.Beach, where []int) int {
	low := api.MaxTideHeight
	for _, strip := range where {
		low = min(low, b.Table.Levels[strip])
	}
	return low
}

// plansOf returns some plans of the beach: the one without moves, some that are chosen,
// and the one of Fewest.
func plansOf(rnd *rand.Rand, b row.Beach) [][][]row.Move {
	out := [][][]row.Move{still(b), somePlan(rnd, b), somePlan(rnd, b)}
	if l, _, e := row.Fewest(b); e == api.OK {
		out = append(out, l)
	}
	return out
}

// eachBeach calls the function with many beaches, each with a generator of its own for
// what else is chosen. Tests that call it run beside each other.
func eachBeach(t *testing.T, f func(t *testing.T, b row.Beach, rnd *rand.Rand)) {
	t.Helper()
	t.Parallel()
	for seed := range 600 {
		rnd := rand.New(rand.NewSource(int64(seed)))
		f(t, someBeach(rnd), rnd)
		if t.Failed() {
			return
		}
	}
}

// atLeast wants that a test has met enough of what it is about.
func atLeast(t *testing.T, met, wanted int, what string) {
	t.Helper()
	if !t.Failed() && met < wanted {
		t.Errorf("only %d %s", met, what)
	}
}

// The calls of a beach of which the test says that they have a result.

func play(t *testing.T, b row.Beach, plan [][]row.Move) [][]int {
	t.Helper()
	l, e := row.Play(b, plan)
	if e != api.OK {
		t.Fatalf("Play of %v, %v: %v", b, plan, e)
	}
	return l
}

func wet(t *testing.T, b row.Beach, plan [][]row.Move, heights []int) [][]int {
	t.Helper()
	l, e := row.Wet(b, plan, heights)
	if e != api.OK {
		t.Fatalf("Wet of %v, %v, %v: %v", b, plan, heights, e)
	}
	return l
}

func safe(t *testing.T, b row.Beach, plan [][]row.Move) int {
	t.Helper()
	n, e := row.Safe(b, plan)
	if e != api.OK {
		t.Fatalf("Safe of %v, %v: %v", b, plan, e)
	}
	return n
}

// danger returns the first danger, and whether there is one.
func danger(t *testing.T, b row.Beach, plan [][]row.Move) (row.Loss, bool) {
	t.Helper()
	l, e := row.Danger(b, plan)
	if e != api.OK && e != api.ErrNone {
		t.Fatalf("Danger of %v, %v: %v", b, plan, e)
	}
	return l, e == api.OK
}

// fewest returns what Fewest does, and whether there is a plan.
func fewest(t *testing.T, b row.Beach) ([][]row.Move, int, bool) {
	t.Helper()
	l, n, e := row.Fewest(b)
	if e != api.OK && e != api.ErrShort {
		t.Fatalf("Fewest of %v: %v", b, e)
	}
	return l, n, e == api.OK
}

func longest(t *testing.T, b row.Beach) int {
	t.Helper()
	n, e := row.Longest(b)
	if e != api.OK {
		t.Fatalf("Longest of %v: %v", b, e)
	}
	return n
}

func doomed(t *testing.T, b row.Beach) []int {
	t.Helper()
	l, e := row.Doomed(b)
	if e != api.OK {
		t.Fatalf("Doomed of %v: %v", b, e)
	}
	return l
}

func equal(a, b [][]int) bool { return slices.EqualFunc(a, b, slices.Equal[[]int]) }

// copied returns a beach that shares no memory with the given one.
func copied(b row.Beach) row.Beach {
	b.Table.Heights, b.Table.Levels, b.Table.Marks = slices.Clone(b.Table.Heights), slices.Clone(b.Table.Levels), slices.Clone(b.Table.Marks)
	b.Rows = slices.Clone(b.Rows)
	return b
}

func copiedPlan(plan [][]row.Move) [][]row.Move {
	var out [][]row.Move
	for _, l := range plan {
		out = append(out, slices.Clone(l))
	}
	return out
}
