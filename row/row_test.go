package row_test

import (
	"math"
	"math/rand"
	"slices"
	"testing"

	"foreshore/api"
	"foreshore/row"
	"foreshore/tide"
)

const yes, no, may = row.Always, row.Never, row.Perhaps

func TestExamples(t *testing.T) {
	b, high := example(2), list(4, 6, 9, 5)
	if e := row.CheckBeach(b); e != api.OK {
		t.Errorf("CheckBeach: %v", e)
	}
	if l := play(t, b, back()); !equal(l, lists(list(0, 3), list(2, 3), list(3, 4), list(3, 4))) {
		t.Errorf("Play of p: %v", l)
	}
	if l := wet(t, b, back(), high); !equal(l, lists(nil, nil, nil, nil)) {
		t.Errorf("Wet of p: %v", l)
	}
	if l := wet(t, b, still(b), high); !equal(l, lists(nil, list(0, 1), list(0, 1), list(0))) {
		t.Errorf("Wet of n: %v", l)
	}
	if v, w := safe(t, b, back()), safe(t, b, still(b)); v != yes || w != no {
		t.Errorf("Safe: %d, %d", v, w)
	}
	if _, e := row.Danger(b, back()); e != api.ErrNone {
		t.Errorf("Danger of p: %v", e)
	}
	if l, found := danger(t, b, still(b)); !found || l.Hour != 1 || l.Row != 0 || !row.ProveLoss(b, still(b), l) || !row.ProveLoss(b, still(b), row.Loss{Hour: 1, Heights: high}) {
		t.Errorf("Danger of n: %v", l)
	}
	for _, x := range []struct {
		hands, steps int
		found        bool
		long         int
		doomed       []int
	}{{2, 6, true, 4, nil}, {1, 0, false, 1, nil}, {0, 0, false, 1, list(0, 1)}} {
		b := example(x.hands)
		l, n, found := fewest(t, b)
		if n != x.steps || found != x.found || row.ProvePlan(b, l, n) != found {
			t.Errorf("Fewest of %v: %v, %d, %v", b, l, n, found)
		}
		if n := longest(t, b); n != x.long {
			t.Errorf("Longest of %v: %d", b, n)
		}
		if l := doomed(t, b); !slices.Equal(l, x.doomed) {
			t.Errorf("Doomed of %v: %v", b, l)
		}
	}
}

// The tenth example of the document: a row that cannot go back far enough before the
// sea is doomed.
func TestDoomedByHand(t *testing.T) {
	for _, x := range []struct {
		b      row.Beach
		doomed []int
		long   int
	}{
		// The sea comes in the hour 1, and only the strip 3 is dry then.
		{known(1, list(3, 5), list(4, 4, 4, 9), 0), list(0), 1},
		{known(1, list(3, 5), list(4, 4, 4, 9), 1), nil, 2},
		{known(1, list(3, 5), list(4, 4, 4, 9), 2), nil, 2},
		{known(2, list(3, 5), list(4, 4, 4, 9), 0), nil, 2},
		{known(0, list(3, 5), list(4, 4, 4, 9), 2), list(0), 1},
		{known(0, list(3, 5), list(4, 4, 4, 9), 3), nil, 2},
		{known(1, list(3, 3, 5), list(4, 4, 4, 9), 0), nil, 3},
		// Two rows that can both be saved, but not together in one hour; a third one is
		// too far off.
		{known(1, list(5), list(4, 4, 9, 9, 4), 1, 4), nil, 0},
		{known(2, list(5), list(4, 4, 9, 9, 4), 1, 4), nil, 1},
		{known(1, list(3, 5), list(4, 4, 9, 9, 4), 1, 4), nil, 2},
		{known(1, list(5), list(4, 4, 9, 9, 4), 1, 4, 0), list(2), 0},
		{known(1, list(5), list(4, 4, 9, 9, 4), 0, 1, 4), list(0), 0},
		// A row alone goes where another one is at first.
		{known(1, list(3, 5), list(4, 9), 0, 1), nil, 1},
		// A dip lies between the row and the strip that is dry.
		{known(1, list(4, 4, 5), list(4, 3, 9), 0), list(0), 2},
		{known(2, list(4, 4, 5), list(4, 3, 9), 0), nil, 3},
		{known(1, list(3, 4, 5), list(4, 3, 9), 0), nil, 3},
		// It must go back and forth.
		{known(2, list(4, 4, 5, 6, 7), list(7, 3, 5, 6), 2), nil, 5},
		{known(1, list(4, 4, 5, 6, 7), list(7, 3, 5, 6), 2), list(0), 4},
		{known(1, list(6, 9, 6, 9), list(6, 9, 6), 0, 2), nil, 1},
		{known(4, list(9), list(4, 5), 1, 0), list(0, 1), 0},
		{known(4, list(9), list(4, 5)), nil, 1},
		{known(0, list(99), nil), nil, 1},
	} {
		if l := doomed(t, x.b); !slices.Equal(l, x.doomed) {
			t.Errorf("Doomed of %v: %v", x.b, l)
		}
		if n := longest(t, x.b); n != x.long {
			t.Errorf("Longest of %v: %d", x.b, n)
		}
	}
}

// P10.1 by hand: moves are made one after the other.
func TestPlayByHand(t *testing.T) {
	b := known(3, list(5, 7), list(4, 5, 6, 7, 8), 1, 2)
	for _, x := range []struct {
		name string
		plan [][]row.Move
		want [][]int
		wet  [][]int
	}{
		{"nothing", still(b), lists(list(1, 2), list(1, 2)), lists(nil, list(0, 1))},
		{"up", plan(moves(1, 3, 0, 2), nil), lists(list(2, 3), list(2, 3)), lists(nil, list(0))},
		{"up, but the first row first", plan(moves(0, 2, 1, 3), nil), nil, nil},
		{"down", plan(moves(0, 0, 1, 1), nil), lists(list(0, 1), list(0, 1)), lists(list(0), list(0, 1))},
		{"down, but the second row first", plan(moves(1, 1, 0, 0), nil), nil, nil},
		{"twice in an hour", plan(moves(1, 3, 1, 4, 0, 2), moves(0, 3)), lists(list(2, 4), list(3, 4)), lists(nil, nil)},
		{"there and back", plan(moves(1, 3, 1, 2), moves(0, 0, 0, 1)), lists(list(1, 2), list(1, 2)), lists(nil, list(0, 1))},
		{"there, and another one behind it, but not back", plan(moves(1, 3, 0, 2, 1, 2), nil), nil, nil},
		{"as many as there are hands", plan(nil, moves(1, 3, 1, 4, 0, 0)), lists(list(1, 2), list(0, 4)), lists(nil, list(0))},
		{"more than there are hands", plan(nil, moves(1, 3, 1, 4, 1, 3, 1, 4)), nil, nil},
		{"by two strips", plan(moves(1, 4), nil), nil, nil},
		{"by none", plan(moves(1, 2), nil), nil, nil},
		{"over another row", plan(moves(0, 3), nil), nil, nil},
		{"before the first strip", plan(moves(0, 0, 0, -1), nil), nil, nil},
		{"behind the last strip", plan(moves(1, 3, 1, 4), moves(1, 5)), nil, nil},
		{"to the last strip", plan(moves(1, 3), moves(1, 4)), lists(list(1, 3), list(1, 4)), lists(nil, list(0))},
		{"the row -1", plan(moves(-1, 0), nil), nil, nil},
		{"the row 2", plan(moves(2, 3), nil), nil, nil},
		{"the row -1 to nowhere", plan(moves(-1, -1), nil), nil, nil},
		{"no hours", nil, nil, nil},
		{"one hour", plan(nil), nil, nil},
		{"three hours", plan(nil, nil, nil), nil, nil},
	} {
		l, e := row.Play(b, x.plan)
		w, f := row.Wet(b, x.plan, list(5, 7))
		want := api.OK
		if x.want == nil {
			want = api.ErrRange
		}
		if !equal(l, x.want) || e != want || !equal(w, x.wet) || f != want {
			t.Errorf("%s: %v, %v; %v, %v", x.name, l, e, w, f)
		}
	}
}

// nearPlans are plans that differ from the given one at one place, and often are none.
func nearPlans(rnd *rand.Rand, b row.Beach, plan [][]row.Move) [][][]row.Move {
	out := [][][]row.Move{nil, plan[1:], append(copiedPlan(plan), nil), append(copiedPlan(plan), plan...)}
	for range 12 {
		l := copiedPlan(plan)
		hour := rnd.Intn(len(l))
		m := row.Move{Row: rnd.Intn(api.MaxRowRows+1) - 1, To: rnd.Intn(len(b.Table.Levels)+2) - 1}
		at := rnd.Intn(len(l[hour]) + 1)
		switch was := l[hour]; {
		case at == len(was) || rnd.Intn(4) == 0:
			l[hour] = slices.Insert(was, at, m)
		case rnd.Intn(3) == 0:
			l[hour] = slices.Delete(was, at, at+1)
		case rnd.Intn(3) == 0:
			was[at], was[0] = was[0], was[at]
		case rnd.Intn(2) == 0:
			was[at].Row = m.Row
		default:
			was[at].To = []int{m.To, was[at].To + 1, was[at].To - 1, math.MaxInt, math.MinInt}[rnd.Intn(5)]
		}
		out = append(out, l)
	}
	return out
}

// P10.1: Play, of plans and of lists that are near them.
func TestPlay(t *testing.T) {
	met := map[bool]int{}
	eachBeach(t, func(t *testing.T, b row.Beach, rnd *rand.Rand) {
		for _, p := range plansOf(rnd, b) {
			for _, l := range append(nearPlans(rnd, b, p), p) {
				want, is := playOf(b, l)
				met[is]++
				if !is {
					expectRange(t, b, l)
				} else if got := play(t, b, l); !equal(got, want) {
					t.Errorf("Play of %v, %v: %v, not %v", b, l, got, want)
				}
			}
		}
	})
	atLeast(t, met[true], 3000, "plans")
	atLeast(t, met[false], 4000, "lists that are no plans")
}

// P10.1: Wet, also with heights with which marks are wrong.
func TestWet(t *testing.T) {
	wets, falsely := map[int]int{}, 0
	eachBeach(t, func(t *testing.T, b row.Beach, rnd *rand.Rand) {
		for _, p := range plansOf(rnd, b) {
			played, _ := playOf(b, p)
			for _, heights := range listsOf(b.Table) {
				if !isTruth(b.Table, heights) {
					falsely++
				}
				l, want := wet(t, b, p, heights), wetOf(b, played, heights)
				if !equal(l, want) {
					t.Errorf("Wet of %v, %v, %v: %v, not %v", b, p, heights, l, want)
				}
				for _, rows := range want {
					wets[len(rows)]++
				}
			}
		}
	})
	for many := range api.MaxRowRows + 1 {
		atLeast(t, wets[many], 2000, "hours with so many wet rows")
	}
	atLeast(t, falsely, 500, "lists of the table that are no truths")
}

// P10.2: Safe, Danger, and ProveLoss of all hours and rows.
func TestSafeAndDanger(t *testing.T) {
	met, dangers, proved := map[int]int{}, map[int]int{}, map[bool]int{}
	eachBeach(t, func(t *testing.T, b row.Beach, rnd *rand.Rand) {
		truths := truthsOf(b.Table)
		for _, p := range plansOf(rnd, b) {
			played, _ := playOf(b, p)
			v, want := safe(t, b, p), safeOf(b, played, truths)
			met[v]++
			if v != want {
				t.Errorf("Safe of %v, %v: %d, not %d", b, p, v, want)
			}
			hour, n := firstWet(b, played, truths)
			l, found := danger(t, b, p)
			if found != (hour <= b.Table.Last) || found != (v != yes) || row.ProveLoss(b, p, l) != found {
				t.Errorf("Danger of %v, %v: %v, %v", b, p, l, found)
			}
			if !found {
				continue
			}
			dangers[n]++
			if l.Hour != hour || l.Row != n || !isList(b.Table, l.Heights) || !isTruth(b.Table, l.Heights) || !slices.Contains(wetAt(b, played[hour], l.Heights[hour]), n) {
				t.Errorf("Danger of %v, %v: %v, not %d, %d", b, p, l, hour, n)
			}
			for _, heights := range listsOf(b.Table) {
				want := isTruth(b.Table, heights) && slices.Contains(wetAt(b, played[hour], heights[hour]), n)
				proved[want]++
				if row.ProveLoss(b, p, row.Loss{Hour: hour, Row: n, Heights: heights}) != want {
					t.Errorf("ProveLoss of %v, %v, %v is not %v", b, p, heights, want)
				}
			}
			for other := range b.Table.Last + 1 {
				for m := range b.Rows {
					x := row.Loss{Hour: other, Row: m, Heights: l.Heights}
					if is := other == hour && m == n; row.ProveLoss(b, p, x) != is {
						t.Errorf("ProveLoss of %v, %v, %v is not %v", b, p, x, is)
					}
				}
			}
		}
	})
	for _, v := range list(yes, no, may) {
		atLeast(t, met[v], 80, "verdicts of a kind")
	}
	for n := range api.MaxRowRows {
		atLeast(t, dangers[n], 50, "first dangers of a row")
	}
	atLeast(t, proved[true], 2000, "losses")
	atLeast(t, proved[false], 2000, "losses that are none")
}

// P10.2 by hand: a plan that is safe in no truth, although it is in each hour in one.
func TestNeverByHand(t *testing.T) {
	b := row.Beach{Table: tide.Table{Last: 1, Heights: ranges(4, 6, 4, 6), Step: 2, Levels: list(5, 4), Marks: []tide.Mark{mark(0, 1, 6, 6)}}, Rows: list(0)}
	for _, x := range []struct {
		change    func(b *row.Beach)
		want      int
		hour, row int
	}{
		// Either of the hours is wet, and perhaps both.
		{func(b *row.Beach) {}, no, 0, 0},
		{func(b *row.Beach) { b.Rows = list(0, 1) }, no, 0, 0},
		{func(b *row.Beach) { b.Rows, b.Table.Heights = list(0, 1), ranges(4, 5, 4, 6) }, no, 0, 1},
		{func(b *row.Beach) { b.Table.Marks = nil }, may, 0, 0},
		{func(b *row.Beach) { b.Table.Marks, b.Table.Heights = nil, ranges(4, 5, 4, 6) }, may, 1, 0},
		{func(b *row.Beach) { b.Table.Marks[0] = mark(0, 0, 6, 6) }, no, 0, 0},
		{func(b *row.Beach) { b.Table.Marks[0] = mark(0, 0, 4, 5) }, may, 1, 0},
		{func(b *row.Beach) { b.Table.Marks[0] = mark(0, 1, 4, 5) }, yes, 0, 0},
		{func(b *row.Beach) { b.Table.Marks[0], b.Rows = mark(0, 1, 4, 5), list(0, 1) }, may, 0, 1},
		{func(b *row.Beach) { b.Table.Marks[0], b.Rows = mark(0, 1, 4, 5), list(1, 0) }, may, 0, 0},
		{func(b *row.Beach) { b.Table.Marks[0], b.Rows = mark(1, 1, 4, 4), list(1) }, may, 0, 0},
		{func(b *row.Beach) { b.Rows = nil }, yes, 0, 0},
	} {
		c := copied(b)
		x.change(&c)
		l, found := danger(t, c, still(c))
		if v := safe(t, c, still(c)); v != x.want || found != (v != yes) || l.Hour != x.hour || l.Row != x.row {
			t.Errorf("Safe, Danger of %v: %d, %v", c, v, l)
		}
	}
}

// P10.2 by hand: a row that goes down, with a mark that says that one of the hours was
// high.
func TestPerhapsByHand(t *testing.T) {
	b := row.Beach{Table: tide.Table{Last: 1, Heights: ranges(4, 6, 4, 6), Step: 2, Levels: list(5, 6, 3), Marks: []tide.Mark{mark(0, 1, 6, 6)}}, Hands: 1, Rows: list(1)}
	for _, x := range []struct {
		plan             [][]row.Move
		want, hour, high int
	}{
		{still(b), yes, 0, 0},
		{plan(nil, moves(0, 0)), may, 1, 6},
		{plan(moves(0, 0), moves(0, 1)), may, 0, 6},
		{plan(moves(0, 0), nil), no, 0, 6},
		{plan(nil, moves(0, 2)), no, 1, 4},
		{plan(moves(0, 2), moves(0, 1)), no, 0, 4},
	} {
		l, found := danger(t, b, x.plan)
		if v := safe(t, b, x.plan); v != x.want || found != (v != yes) || l.Hour != x.hour || found && l.Heights[l.Hour] < x.high {
			t.Errorf("Safe, Danger of %v, %v: %d, %v", b, x.plan, v, l)
		}
	}
}

// P10.3, P10.4 and P10.5: Fewest, ProvePlan, Longest and Doomed.
func TestFewestLongestAndDoomed(t *testing.T) {
	steps, long, rows := map[int]int{}, map[bool]int{}, map[int]int{}
	eachBeach(t, func(t *testing.T, b row.Beach, rnd *rand.Rand) {
		best := bestOf(b)
		found := best.hours > b.Table.Last
		l, n, ok := fewest(t, b)
		if ok != found || found && n != best.steps {
			t.Errorf("Fewest of %v: %d, %v, not %v", b, n, ok, best)
		}
		if found {
			steps[min(n, 5)]++
			played, is := playOf(b, l)
			if !is || stepsOf(l) != n || safeOf(b, played, truthsOf(b.Table)) != yes {
				t.Errorf("Fewest of %v: %v, %d", b, l, n)
			}
		}
		long[best.hours > 0 && !found]++
		if n := longest(t, b); n != best.hours {
			t.Errorf("Longest of %v: %d, not %d", b, n, best.hours)
		}
		got, want := doomed(t, b), doomedOf(b)
		rows[len(want)]++
		if !slices.Equal(got, want) {
			t.Errorf("Doomed of %v: %v, not %v", b, got, want)
		}
	})
	for many := range 6 {
		atLeast(t, steps[many], 10, "fewest steps of a kind")
	}
	atLeast(t, long[true], 100, "longest times before the end")
	for many := range api.MaxRowRows + 1 {
		atLeast(t, rows[many], 25, "beaches with so many doomed rows")
	}
}

// P10.3: ProvePlan, of plans with any number of steps.
func TestProvePlan(t *testing.T) {
	met := map[bool]int{}
	eachBeach(t, func(t *testing.T, b row.Beach, rnd *rand.Rand) {
		for _, p := range plansOf(rnd, b) {
			for _, l := range append(nearPlans(rnd, b, p), p) {
				played, is := playOf(b, l)
				is = is && safeOf(b, played, truthsOf(b.Table)) == yes
				met[is]++
				for _, steps := range list(math.MinInt, -1, 0, stepsOf(l)-1, stepsOf(l), stepsOf(l)+1, math.MaxInt) {
					if want := is && stepsOf(l) <= steps; row.ProvePlan(b, l, steps) != want {
						t.Errorf("ProvePlan of %v, %v, %d is not %v", b, l, steps, want)
					}
				}
			}
		}
	})
	atLeast(t, met[true], 1000, "plans that are safe always")
	atLeast(t, met[false], 4000, "others")
}

// P10.3 by hand: the steps that are made later, or by fewer rows, are fewer.
func TestFewestByHand(t *testing.T) {
	for _, x := range []struct {
		b     row.Beach
		steps int
		found bool
	}{
		{known(1, list(5, 5), list(4, 5), 1), 0, true},
		{known(1, list(5, 5), list(4, 5), 0), 1, true},
		{known(1, list(4, 5), list(4, 5), 0), 1, true},
		{known(4, list(5), list(4, 4, 4, 4, 5), 0), 4, true},
		{known(3, list(5), list(4, 4, 4, 4, 5), 0), 0, false},
		{known(2, list(4, 5), list(4, 4, 4, 4, 5), 0), 4, true},
		// Three rows move up in a line.
		{known(3, list(4, 5), list(4, 5, 5, 5), 0, 1, 2), 3, true},
		{known(2, list(4, 5), list(4, 5, 5, 5), 0, 1, 2), 3, true},
		{known(1, list(4, 5), list(4, 5, 5, 5), 0, 1, 2), 0, false},
		{known(1, list(4, 4, 5), list(4, 5, 5, 5), 0, 1, 2), 3, true},
		// A row stays high, or goes down for another one.
		{known(2, list(4, 5, 4, 4), list(4, 5, 4), 0), 1, true},
		{known(2, list(4, 5, 4, 5), list(4, 5, 4), 0, 1), 0, false},
		{known(4, list(5, 4, 5), list(5, 4, 5, 4), 0, 2), 0, true},
		{known(2, list(4, 6, 4, 7), list(7, 4, 6, 4), 1), 1, true},
		{known(2, list(4, 6, 4, 7), list(7, 4, 6, 4), 2), 2, true},
		{known(2, list(4, 6, 4, 7), list(7, 4, 6, 4), 3), 3, true},
		{known(1, list(4, 6, 4, 7), list(7, 4, 6, 4), 3), 3, true},
		{known(1, list(4, 6, 6, 7), list(7, 4, 6, 4), 3), 0, false},
		// Rows cannot pass each other.
		{known(4, list(4, 5, 5), list(4, 5), 0, 1), 0, false},
		{known(4, list(4, 5, 5), list(4, 5, 5), 0, 1), 2, true},
		{known(0, list(9, 9), list(1, 2)), 0, true},
	} {
		l, n, found := fewest(t, x.b)
		if n != x.steps || found != x.found || row.ProvePlan(x.b, l, n) != found || row.ProvePlan(x.b, l, n-1) {
			t.Errorf("Fewest of %v: %v, %d, %v", x.b, l, n, found)
		}
	}
}
