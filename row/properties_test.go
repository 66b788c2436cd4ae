package row_test

import (
	"math/rand"
	"slices"
	"testing"

	"foreshore/api"
	"foreshore/row"
	"foreshore/tide"
)

// proved returns the truths of a table, as tide.ProveTruth says.
func proved(b row.Beach) [][]int {
	return slices.DeleteFunc(listsOf(b.Table), func(l []int) bool { return !tide.ProveTruth(b.Table, l) })
}

// P10.6, P2 and P3: what is returned holds in each truth that is proved.
func TestInEachTruth(t *testing.T) {
	met := map[int]int{}
	eachBeach(t, func(t *testing.T, b row.Beach, rnd *rand.Rand) {
		for i, p := range plansOf(rnd, b) {
			v := safe(t, b, p)
			if i == 3 && v != yes {
				t.Errorf("Fewest of %v: %v, which is not safe", b, p)
			}
			l, found := danger(t, b, p)
			first := b.Table.Last + 1
			for _, heights := range proved(b) {
				w := wet(t, b, p, heights)
				wets := len(slices.Concat(w...))
				met[v]++
				if v == yes && wets > 0 || v == no && wets == 0 {
					t.Errorf("Safe of %v, %v: %d, but %v with %v", b, p, v, w, heights)
				}
				if at := slices.IndexFunc(w, func(rows []int) bool { return len(rows) > 0 }); at >= 0 {
					first = min(first, at)
				}
			}
			if found != (first <= b.Table.Last) || found && l.Hour != first {
				t.Errorf("Danger of %v, %v: %v, but %d", b, p, l, first)
			}
			if found && !slices.Contains(wet(t, b, p, l.Heights)[l.Hour], l.Row) {
				t.Errorf("Danger of %v, %v: %v, but the row is not wet", b, p, l)
			}
		}
	})
	for _, v := range list(yes, no, may) {
		atLeast(t, met[v], 800, "truths with a verdict")
	}
}

// small cuts a beach so that all its plans can be tried.
func small(b row.Beach) row.Beach {
	b = copied(b)
	b.Table.Last = min(b.Table.Last, 3)
	b.Table.Heights, b.Table.Marks = b.Table.Heights[:b.Table.Last+1], nil
	b.Rows = b.Rows[:min(len(b.Rows), 2)]
	b.Hands = min(b.Hands, 2)
	if len(b.Rows) == 2 {
		b.Hands = min(b.Hands, 3-len(b.Table.Levels)/3)
	}
	return b
}

// P10.7 and P5: no plan, whichever is tried, is safe always with fewer steps, nor
// keeps all rows dry for longer.
func TestNoFewerSteps(t *testing.T) {
	tried, with := 0, 0
	eachBeach(t, func(t *testing.T, b row.Beach, rnd *rand.Rand) {
		b = small(b)
		truths := truthsOf(b.Table)
		_, steps, found := fewest(t, b)
		long, least, many := 0, -1, 0
		allPlans(b, func(p [][]row.Move) bool {
			many++
			played, _ := playOf(b, p)
			hour, _ := firstWet(b, played, truths)
			long = max(long, hour)
			if n := stepsOf(p); hour > b.Table.Last && (least < 0 || n < least) {
				least = n
			}
			if many%50 == 0 && row.ProvePlan(b, p, steps-1) {
				t.Errorf("Fewest of %v: %d, but %v", b, steps, p)
			}
			return many < 20000
		})
		if many == 20000 {
			return
		}
		tried += many
		if least > 0 {
			with++
		}
		if found != (least >= 0) || found && steps != least {
			t.Errorf("Fewest of %v: %d, %v, not %d", b, steps, found, least)
		}
		if n := longest(t, b); n != long {
			t.Errorf("Longest of %v: %d, not %d", b, n, long)
		}
	})
	atLeast(t, tried, 100000, "plans")
	atLeast(t, with, 20, "beaches on which a row must be moved")
}

// easier wants that there is no less to be saved on the first beach than on the second
// one, and no more to do. It reports whether something is another one.
func easier(t *testing.T, a, b row.Beach) bool {
	t.Helper()
	_, m, first := fewest(t, a)
	_, n, second := fewest(t, b)
	if second && (!first || m > n) {
		t.Errorf("Fewest of %v: %d, %v, of %v: %d, %v", a, m, first, b, n, second)
	}
	k, l := longest(t, a), longest(t, b)
	if k < l {
		t.Errorf("Longest of %v: %d, of %v: %d", a, k, b, l)
	}
	return m != n || first != second || k != l
}

// P10.8: more hands.
func TestMoreHands(t *testing.T) {
	other, saved := 0, 0
	eachBeach(t, func(t *testing.T, b row.Beach, rnd *rand.Rand) {
		more, plans := copied(b), plansOf(rnd, b)
		for more.Hands++; more.Hands <= api.MaxRowHands; more.Hands++ {
			if easier(t, more, b) {
				other++
			}
			x, y := doomed(t, more), doomed(t, b)
			if slices.ContainsFunc(x, func(n int) bool { return !slices.Contains(y, n) }) {
				t.Errorf("Doomed of %v: %v, of %v: %v", more, x, b, y)
			}
			saved += len(y) - len(x)
			for _, p := range plans {
				if v, w := safe(t, more, p), safe(t, b, p); v != w || !equal(play(t, more, p), play(t, b, p)) {
					t.Errorf("Safe of %v, %v: %d, of %v: %d", more, p, v, b, w)
				}
			}
		}
	})
	atLeast(t, other, 150, "beaches that are easier with more hands")
	atLeast(t, saved, 60, "rows that are saved with more hands")
}

// withoutRow returns the beach without the row.
func withoutRow(b row.Beach, n int) row.Beach {
	b = copied(b)
	b.Rows = slices.Delete(b.Rows, n, n+1)
	return b
}

// P10.9: one row less.
func TestOneRowLess(t *testing.T) {
	other := 0
	eachBeach(t, func(t *testing.T, b row.Beach, rnd *rand.Rand) {
		all := doomed(t, b)
		for n := range b.Rows {
			less := withoutRow(b, n)
			if easier(t, less, b) {
				other++
			}
			var want []int
			for _, m := range all {
				if m > n {
					m--
				} else if m == n {
					continue
				}
				want = append(want, m)
			}
			if l := doomed(t, less); !slices.Equal(l, want) {
				t.Errorf("Doomed of %v: %v, of %v: %v", less, l, b, all)
			}
		}
	})
	atLeast(t, other, 100, "beaches that are easier with one row less")
}

// P10.10: rows that are doomed, and rows alone.
func TestDoomedRows(t *testing.T) {
	met := map[bool]int{}
	eachBeach(t, func(t *testing.T, b row.Beach, rnd *rand.Rand) {
		all := doomed(t, b)
		if _, _, found := fewest(t, b); found && len(all) > 0 {
			t.Errorf("Doomed of %v: %v, but it has a plan", b, all)
		}
		for n := range b.Rows {
			is := slices.Contains(all, n)
			met[is]++
			one := alone(b, n)
			_, _, found := fewest(t, one)
			if long := longest(t, one); found == is || (long == b.Table.Last+1) == is || len(doomed(t, one)) > 0 != is {
				t.Errorf("Doomed of %v: %v, but of %v %v, %d", b, all, one, found, long)
			}
		}
	})
	atLeast(t, met[true], 200, "rows that are doomed")
	atLeast(t, met[false], 500, "rows that are not")
}

// P10.11: one more mark.
func TestOneMoreMark(t *testing.T) {
	kept, other := 0, 0
	eachBeach(t, func(t *testing.T, b row.Beach, rnd *rand.Rand) {
		truths, plans := truthsOf(b.Table), plansOf(rnd, b)
		for range 4 {
			more := copied(b)
			m := someMark(rnd, truths[rnd.Intn(len(truths))])
			more.Table.Marks = slices.Insert(more.Table.Marks, rnd.Intn(len(b.Table.Marks)+1), m)
			if len(truthsOf(more.Table)) == 0 {
				expect(t, lasting, more, asked{}, api.ErrFalse)
				continue
			}
			kept++
			changed := easier(t, more, b)
			for _, p := range plans {
				v, w := safe(t, more, p), safe(t, b, p)
				if w != may && v != w {
					t.Errorf("Safe of %v, %v: %d, of %v: %d", more, p, v, b, w)
				}
				changed = changed || v != w
			}
			if changed {
				other++
			}
		}
	})
	atLeast(t, kept, 1000, "beaches that have a truth with one more mark")
	atLeast(t, other, 60, "marks that change something")
}

// P10.12: if all strips with rows are surely dry, there is nothing to do.
func TestNothingToDo(t *testing.T) {
	met := map[bool]int{}
	eachBeach(t, func(t *testing.T, b row.Beach, rnd *rand.Rand) {
		level, e := tide.Dry(b.Table, 0, b.Table.Last)
		if e != api.OK {
			t.Fatalf("tide.Dry of %v: %v", b.Table, e)
		}
		dry := lowest(b, b.Rows) >= level
		met[dry]++
		p, n, found := fewest(t, b)
		if dry && (!found || n != 0 || stepsOf(p) != 0) || found && (n == 0) != dry {
			t.Errorf("Fewest of %v: %v, %d, %v", b, p, n, found)
		}
		if v := safe(t, b, still(b)); (v == yes) != dry {
			t.Errorf("Safe of %v: %d", b, v)
		}
	})
	atLeast(t, met[true], 150, "beaches with nothing to do")
	atLeast(t, met[false], 150, "beaches with something to do")
}

// mirrored returns the beach with the strips numbered the other way round.
func mirrored(b row.Beach) row.Beach {
	b = copied(b)
	slices.Reverse(b.Table.Levels)
	for n, strip := range b.Rows {
		b.Rows[n] = len(b.Table.Levels) - 1 - strip
	}
	return b
}

// same wants that there is as much to do on two beaches.
func same(t *testing.T, a, b row.Beach) {
	t.Helper()
	if l, m := doomed(t, a), doomed(t, b); easier(t, a, b) || !slices.Equal(l, m) {
		t.Errorf("%v and %v are not the same; Doomed: %v, %v", a, b, l, m)
	}
}

// P10.13: strips that are numbered the other way round.
func TestMirror(t *testing.T) {
	eachBeach(t, func(t *testing.T, b row.Beach, rnd *rand.Rand) {
		x := mirrored(b)
		same(t, b, x)
		for _, p := range plansOf(rnd, b) {
			q := copiedPlan(p)
			for hour := range q {
				for i := range q[hour] {
					q[hour][i].To = len(b.Table.Levels) - 1 - q[hour][i].To
				}
			}
			l, _ := danger(t, b, p)
			m, _ := danger(t, x, q)
			if v, w := safe(t, b, p), safe(t, x, q); v != w || l.Hour != m.Hour || l.Row != m.Row {
				t.Errorf("Safe, Danger of %v, %v: %d, %v, of %v, %v: %d, %v", b, p, v, l, x, q, w, m)
			}
		}
	})
}

// P7: marks in any order.
func TestAnyOrder(t *testing.T) {
	eachBeach(t, func(t *testing.T, b row.Beach, rnd *rand.Rand) {
		x := copied(b)
		slices.Reverse(x.Table.Marks)
		same(t, b, x)
		for _, p := range plansOf(rnd, b) {
			l, _ := danger(t, b, p)
			m, _ := danger(t, x, p)
			if v, w := safe(t, b, p), safe(t, x, p); v != w || l.Hour != m.Hour || l.Row != m.Row {
				t.Errorf("Safe, Danger of %v, %v: %d, %v, of %v: %d, %v", b, p, v, l, x, w, m)
			}
		}
	})
}

// P4: each row is on one strip of the beach in each hour, and no strip has two.
func TestNoRowIsLost(t *testing.T) {
	eachBeach(t, func(t *testing.T, b row.Beach, rnd *rand.Rand) {
		for _, p := range plansOf(rnd, b) {
			for hour, where := range play(t, b, p) {
				sorted := slices.Clone(where)
				slices.Sort(sorted)
				if len(where) != len(b.Rows) || len(slices.Compact(sorted)) != len(where) || slices.ContainsFunc(where, func(strip int) bool { return strip < 0 || strip >= len(b.Table.Levels) }) {
					t.Errorf("Play of %v, %v: %v in the hour %d", b, p, where, hour)
				}
			}
		}
	})
}

// R3: nil and a list without elements.
func TestNilIsEmpty(t *testing.T) {
	none := known(1, list(5, 7), nil)
	empty := known(1, list(5, 7), []int{}, []int{}...)
	empty.Rows, empty.Table.Marks = []int{}, []tide.Mark{}
	for _, b := range []row.Beach{none, empty} {
		for _, p := range [][][]row.Move{plan(nil, nil), plan([]row.Move{}, nil)} {
			if l, m := play(t, b, p), wet(t, b, p, list(5, 7)); !equal(l, lists(nil, nil)) || !equal(m, lists(nil, nil)) {
				t.Errorf("Play, Wet of %v: %v, %v", b, l, m)
			}
			if v := safe(t, b, p); v != yes || !row.ProvePlan(b, p, 0) || row.ProvePlan(b, p, -1) || row.ProveLoss(b, p, row.Loss{Heights: list(5, 7)}) {
				t.Errorf("Safe of %v: %d", b, v)
			}
			expect(t, losing, b, asked{plan: p}, api.ErrNone)
		}
		for _, p := range [][][]row.Move{nil, {}} {
			expectRange(t, b, p)
		}
		if p, n, found := fewest(t, b); !found || n != 0 || len(p) != 2 || stepsOf(p) != 0 {
			t.Errorf("Fewest of %v: %v, %d, %v", b, p, n, found)
		}
		if n, l := longest(t, b), doomed(t, b); n != 2 || len(l) != 0 {
			t.Errorf("Longest, Doomed of %v: %d, %v", b, n, l)
		}
	}
}

func sameBeach(a, b row.Beach) bool {
	x, y := a.Table, b.Table
	return x.Last == y.Last && x.Step == y.Step && slices.Equal(x.Heights, y.Heights) && slices.Equal(x.Levels, y.Levels) && slices.Equal(x.Marks, y.Marks) &&
		a.Hands == b.Hands && slices.Equal(a.Rows, b.Rows)
}

func samePlan(a, b [][]row.Move) bool { return slices.EqualFunc(a, b, slices.Equal[[]row.Move]) }

// R4: arguments are not written to, also not behind their ends.
func TestArgumentsAreKept(t *testing.T) {
	whole := example(2)
	whole.Table.Heights = append(whole.Table.Heights, ranges(77, 78)...)
	whole.Table.Levels = append(whole.Table.Levels, 77)
	whole.Table.Marks = []tide.Mark{mark(1, 1, 5, 6), mark(7, 7, 7, 7)}
	whole.Rows = append(whole.Rows, 77, 78)
	heights := list(4, 6, 9, 5, 77)
	long := append(back(), moves(7, 7, 7, 7))
	for hour := range long {
		long[hour] = append(long[hour], row.Move{Row: 77, To: 77}, row.Move{Row: 78, To: 78})
	}
	kept, keptHeights, keptPlan := copied(whole), slices.Clone(heights), copiedPlan(long)
	for rows := range 3 {
		b := whole
		b.Table.Heights, b.Table.Levels, b.Table.Marks = b.Table.Heights[:4], b.Table.Levels[:5], b.Table.Marks[:1]
		b.Rows = b.Rows[:rows]
		p := slices.Clone(long[:4])
		for hour := range p {
			p[hour] = p[hour][:len(p[hour])-2]
		}
		for _, l := range [][][]row.Move{p, {p[3], p[3], p[3], p[3]}, {p[0][:0], p[3], p[0][:1], p[3]}} {
			callAll(b, asked{l, heights[:4]}, 1, 0)
			callAll(b, asked{l, heights[:3]}, 1, 99)
		}
	}
	if !sameBeach(whole, kept) || !slices.Equal(heights, keptHeights) || !samePlan(long, keptPlan) {
		t.Errorf("%v, %v, %v became %v, %v, %v", kept, keptHeights, keptPlan, whole, heights, long)
	}
}

// R4: results are in memory of their own, also behind their ends.
func TestResultsAreApart(t *testing.T) {
	b, high, p := example(2), list(4, 6, 9, 5), back()
	kept := copied(b)
	for range 2 {
		played, wets := play(t, b, p), wet(t, b, still(b), high)
		best, steps, _ := fewest(t, b)
		l, _ := danger(t, b, still(b))
		lost := doomed(t, example(0))
		for hour := range played {
			played[hour] = append(played[hour], 77, 77)
			wets[hour] = append(wets[hour], 77, 77)
			best[hour] = append(best[hour], moves(7, 7, 7, 7)...)
		}
		if !equal(played, lists(list(0, 3, 77, 77), list(2, 3, 77, 77), list(3, 4, 77, 77), list(3, 4, 77, 77))) || !equal(wets, lists(list(77, 77), list(0, 1, 77, 77), list(0, 1, 77, 77), list(0, 77, 77))) {
			t.Errorf("hours share memory: %v, %v", played, wets)
		}
		for hour := range best {
			best[hour] = best[hour][:len(best[hour])-2]
		}
		if !row.ProvePlan(b, best, steps) || steps != 6 || !row.ProveLoss(b, still(b), l) || !slices.Equal(lost, list(0, 1)) {
			t.Errorf("results: %v, %d, %v, %v", best, steps, l, lost)
		}
		for _, list := range append(append(played, wets...), l.Heights, lost) {
			for i := range list {
				list[i] = 77
			}
		}
		for hour := range best {
			for i := range best[hour] {
				best[hour][i] = row.Move{Row: 77, To: 77}
			}
		}
	}
	if !sameBeach(b, kept) || !slices.Equal(high, list(4, 6, 9, 5)) || !samePlan(p, back()) {
		t.Errorf("a result shares memory with an argument: %v, %v, %v", b, high, p)
	}
}

// A call with equal arguments returns equal results.
func TestAgain(t *testing.T) {
	eachBeach(t, func(t *testing.T, b row.Beach, rnd *rand.Rand) {
		same(t, b, copied(b))
		p, _, _ := fewest(t, b)
		if q, _, _ := fewest(t, copied(b)); !samePlan(p, q) {
			t.Errorf("Fewest of %v: %v and %v", b, p, q)
		}
		for _, p := range plansOf(rnd, b) {
			l, _ := danger(t, b, p)
			if m, _ := danger(t, copied(b), copiedPlan(p)); l.Hour != m.Hour || l.Row != m.Row || !slices.Equal(l.Heights, m.Heights) {
				t.Errorf("Danger of %v, %v: %v and %v", b, p, l, m)
			}
		}
	})
}

// widest returns a beach with many truths, and as many strips, rows, hands and marks as
// there can be: the sea rises to the level of the last strips.
func widest() row.Beach {
	b := row.Beach{
		Table: tide.Table{Last: 9, Heights: ranges(0, 1, 0, 2, 0, 2, 0, 2, 0, 2, 0, 2, 1, 2, 1, 2, 3, 3, 3, 3), Step: 3, Levels: list(2, 2, 2, 3, 3, 3)},
		Hands: api.MaxRowHands,
		Rows:  list(0, 1, 2),
	}
	b.Table.Marks = slices.Repeat([]tide.Mark{mark(0, 9, 0, 9)}, api.MaxTideMarks)
	return b
}

// P5: a beach with many truths, and many ways.
func TestWidest(t *testing.T) {
	b := widest()
	if n := len(truthsOf(b.Table)); n != 1944 {
		t.Fatalf("%d truths", n)
	}
	if p, n, found := fewest(t, b); !found || n != 9 || safe(t, b, p) != yes {
		t.Errorf("Fewest: %v, %d, %v", p, n, found)
	}
	l, found := danger(t, b, still(b))
	if v := safe(t, b, still(b)); v != no || !found || l.Hour != 8 || l.Row != 0 || !row.ProveLoss(b, still(b), l) {
		t.Errorf("Danger: %d, %v", v, l)
	}
	b.Table.Levels[1] = 1
	if v := safe(t, b, still(b)); v != no {
		t.Errorf("Safe: %d", v)
	}
	if best := bestOf(b); longest(t, b) != best.hours {
		t.Errorf("Longest: %d, not %v", longest(t, b), best)
	}
}
