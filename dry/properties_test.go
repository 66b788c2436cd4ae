package dry_test

import (
	"math/rand"
	"slices"
	"testing"

	"foreshore/api"
	"foreshore/dry"
	"foreshore/tide"
)

// proved returns the truths of a yard, as ProveTruth says.
func proved(y dry.Yard) [][]int {
	var out [][]int
	for _, l := range combinations(y.Table.Heights) {
		if dry.ProveTruth(y, l) {
			out = append(out, l)
		}
	}
	return out
}

// rottenOf returns how many of the stays rot.
func rottenOf(y dry.Yard, stays []dry.Stay) int {
	many := 0
	for _, s := range stays {
		if s.Rot <= y.Table.Last {
			many++
		}
	}
	return many
}

// isPart reports whether all elements of the first list are in the second one.
func isPart(a, b []int) bool {
	return !slices.ContainsFunc(a, func(n int) bool { return !slices.Contains(b, n) })
}

// P8.6, P2 and P3: what is returned holds in each truth that is proved, and both
// ends are reached.
func TestInEachTruth(t *testing.T) {
	eachTrue(t, func(t *testing.T, y dry.Yard, _ [][]int, rnd *rand.Rand) {
		order := someOrder(rnd, len(y.Chairs))
		loss, worst := lost(t, y, order)
		if n := rottenOf(y, play(t, y, order, worst)); n != loss || !dry.ProveTruth(y, worst) {
			t.Errorf("Lost of %v, %v: %d, %v, but %d", y, order, loss, worst, n)
		}
		var played [][]dry.Stay
		for _, heights := range proved(y) {
			l := play(t, y, order, heights)
			played = append(played, l)
			if n := rottenOf(y, l); n > loss {
				t.Errorf("Lost of %v, %v: %d, but %d with %v", y, order, loss, n, heights)
			}
		}
		for chair := range y.Chairs {
			said, r := verdicts(t, y, order, chair), hours(t, y, order, chair)
			met := map[int]bool{}
			for _, l := range played {
				met[len(l[chair].Free)] = true
				if n := len(l[chair].Free); n < r.Lo || n > r.Hi {
					t.Errorf("Hours of %v, %v, %d: %v, but %d", y, order, chair, r, n)
				}
				for hour, v := range said {
					if is := slices.Contains(l[chair].Free, hour); v == yes && !is || v == no && is {
						t.Errorf("Free of %v, %v, %d, %d: %d, but %v", y, order, chair, hour, v, is)
					}
				}
			}
			if !met[r.Lo] || !met[r.Hi] {
				t.Errorf("Hours of %v, %v, %d: %v", y, order, chair, r)
			}
		}
		if l := leave(t, y); len(l) != 0 {
			t.Errorf("Leave of %v: %v", y, l)
		}
	})
}

// P8.6 and P6: hires that are right in some truth of the table need not be left out.
func TestHiresThatAreRight(t *testing.T) {
	met := 0
	eachYard(t, func(t *testing.T, y dry.Yard, rnd *rand.Rand) {
		many := len(leave(t, y))
		for _, heights := range tidesOf(y) {
			stays, wrong := play(t, y, y.Order, heights), 0
			for _, h := range y.Hires {
				if !slices.Contains(stays[h.Chair].Free, h.Hour) {
					wrong++
				}
			}
			if wrong > 0 {
				met++
			}
			if wrong < many {
				t.Errorf("Leave of %v: %d hires, but with %v %d are wrong", y, many, heights, wrong)
			}
		}
	})
	atLeast(t, met, 1000, "truths of the table in which a hire is wrong")
}

// P8.7: chairs that are not brought in are wet as their rows; those that are brought
// in at once never.
func TestWetAsTheRow(t *testing.T) {
	wet, dried := 0, 0
	eachYard(t, func(t *testing.T, y dry.Yard, rnd *rand.Rand) {
		heights := tidesOf(y)[0]
		rows, e := tide.Play(y.Table, heights)
		if e != api.OK {
			t.Fatalf("tide.Play of %v, %v: %v", y.Table, heights, e)
		}
		order := someOrder(rnd, len(y.Chairs))
		for chair, s := range play(t, y, order, heights) {
			row := rows[y.Chairs[chair].Row]
			switch at := slices.Index(order, chair); {
			case at < 0:
				wet++
				if s.Wet != len(row) || slices.ContainsFunc(s.Free, func(hour int) bool { return slices.Contains(row, hour) }) {
					t.Errorf("Play of %v, %v, %v: %v, but the row is wet in %v", y, order, heights, s, row)
				}
			case at < y.Hands:
				dried++
				if s.Wet != 0 || s.Rot != y.Table.Last+1 || len(s.Free) != y.Table.Last+1 {
					t.Errorf("Play of %v, %v, %v: %v of a chair that is brought in at once", y, order, heights, s)
				}
			}
			if slices.ContainsFunc(s.Free, func(hour int) bool { return hour >= s.Rot }) {
				t.Errorf("Play of %v, %v, %v: %v is hired when it is rotten", y, order, heights, s)
			}
		}
	})
	atLeast(t, wet, 200, "chairs that are not brought in")
	atLeast(t, dried, 200, "chairs that are brought in at once")
}

// P8.8 and P5: no order has a smaller loss, whichever is tried; a longer one loses
// no more; nor do more hands.
func TestNoBetterOrder(t *testing.T) {
	less, fewer := 0, 0
	eachTrue(t, func(t *testing.T, y dry.Yard, _ [][]int, rnd *rand.Rand) {
		order, least := best(t, y)
		if n, _ := lost(t, y, order); n != least {
			t.Errorf("Best of %v: %v, %d, but Lost %d", y, order, least, n)
		}
		for _, other := range allOrders(len(y.Chairs)) {
			if rnd.Intn(4) == 0 && dry.ProveOrder(y, other, least-1) {
				t.Errorf("Best of %v: %d, but %v", y, least, other)
			}
		}
		whole := rnd.Perm(len(y.Chairs))
		before := len(y.Chairs)
		for end := range len(whole) + 1 {
			n, _ := lost(t, y, whole[:end])
			if n > before {
				t.Errorf("Lost of %v, %v: %d, but %d of a shorter one", y, whole[:end], n, before)
			}
			if end > 0 && n < before {
				less++
			}
			before = n
		}
		more := withoutHires(y)
		before = len(y.Chairs)
		for more.Hands = range api.MaxDryHands + 1 {
			_, n := best(t, more)
			if n > before {
				t.Errorf("Best of %v: %d, but %d with fewer hands", more, n, before)
			}
			if more.Hands > 0 && n < before {
				fewer++
			}
			before = n
		}
	})
	atLeast(t, less, 100, "orders that lose less than the shorter one")
	atLeast(t, fewer, 100, "least losses that are less with more hands")
}

// withoutHires returns the yard without hires, which more hands, or another chair,
// could make wrong or right.
func withoutHires(y dry.Yard) dry.Yard {
	y = copied(y)
	y.Hires = nil
	return y
}

// P8.9: a higher row, fewer hours to dry, and more to rot.
func TestDrierChairs(t *testing.T) {
	ways := []struct {
		name   string
		change func(y *dry.Yard, c *dry.Chair, rnd *rand.Rand)
	}{
		{"a higher row", func(y *dry.Yard, c *dry.Chair, rnd *rand.Rand) {
			y.Table.Levels[c.Row] = within(y.Table.Levels[c.Row] + 1 + rnd.Intn(2))
		}},
		{"smaller Hours", func(y *dry.Yard, c *dry.Chair, rnd *rand.Rand) { c.Hours = rnd.Intn(max(c.Hours, 1)) }},
		{"a greater Rot", func(y *dry.Yard, c *dry.Chair, rnd *rand.Rand) { c.Rot = min(c.Rot+1+rnd.Intn(3), api.MaxDryRot) }},
	}
	other := make([]int, len(ways))
	eachYard(t, func(t *testing.T, y dry.Yard, rnd *rand.Rand) {
		heights, order := tidesOf(y)[0], someOrder(rnd, len(y.Chairs))
		for chair := range y.Chairs {
			for i, way := range ways {
				x := copied(y)
				way.change(&x, &x.Chairs[chair], rnd)
				a, b := play(t, y, order, heights)[chair], play(t, x, order, heights)[chair]
				if !isPart(a.Free, b.Free) || b.Rot < a.Rot || b.Wet > a.Wet {
					t.Errorf("Play of %v, %v, %v: %v, but %v with %s", y, order, heights, a, b, way.name)
				}
				if !sameStay(a, b) {
					other[i]++
				}
			}
		}
	})
	for i, way := range ways {
		atLeast(t, other[i], 80, "chairs that are drier with "+way.name)
	}
}

// P8.10: lower seas.
func TestLowerSeas(t *testing.T) {
	met := 0
	eachYard(t, func(t *testing.T, y dry.Yard, rnd *rand.Rand) {
		order := someOrder(rnd, len(y.Chairs))
		tides := tidesOf(y)
		high := tides[len(tides)-1]
		a := play(t, y, order, high)
		for _, low := range tides {
			if slices.ContainsFunc(subsets(len(low)), func(l []int) bool { return len(l) == 1 && low[l[0]] > high[l[0]] }) {
				continue
			}
			for chair, s := range play(t, y, order, low) {
				if s.Wet > a[chair].Wet || !isPart(a[chair].Free, s.Free) || s.Rot < a[chair].Rot {
					t.Errorf("Play of %v, %v, %v: %v, but %v with %v", y, order, low, s, a[chair], high)
				}
				if !sameStay(s, a[chair]) {
					met++
				}
			}
		}
	})
	atLeast(t, met, 500, "stays that are drier with a lower sea")
}

// P8.10: hires that are wrong in each truth of a table without marks.
func TestHiresOfATableWithoutMarks(t *testing.T) {
	met := 0
	eachYard(t, func(t *testing.T, y dry.Yard, rnd *rand.Rand) {
		y.Table.Marks = nil
		var wrong []int
		for i, h := range y.Hires {
			if free(t, withoutHires(y), y.Order, h.Chair, h.Hour) == no {
				wrong = append(wrong, i)
			}
		}
		met += len(wrong)
		if l := leave(t, y); !slices.Equal(l, wrong) {
			t.Errorf("Leave of %v: %v, but %v are wrong in each truth", y, l, wrong)
		}
	})
	atLeast(t, met, 100, "hires that are wrong in each truth")
}

// narrower wants that in the first yard, which has a truth, no range is wider than in
// the second one, that verdicts stay, and that no loss is greater. It reports whether
// something is another one.
func narrower(t *testing.T, a, b dry.Yard, order []int) bool {
	t.Helper()
	other := false
	for chair := range a.Chairs {
		r, s := hours(t, a, order, chair), hours(t, b, order, chair)
		if r.Lo < s.Lo || r.Hi > s.Hi {
			t.Errorf("Hours of %v, %v, %d: %v, of %v: %v", a, order, chair, r, b, s)
		}
		v := verdicts(t, a, order, chair)
		for hour, w := range verdicts(t, b, order, chair) {
			if w != may && v[hour] != w {
				t.Errorf("Free of %v, %v, %d, %d: %d, of %v: %d", a, order, chair, hour, v[hour], b, w)
			}
			other = other || v[hour] != w
		}
		other = other || r != s
	}
	m, _ := lost(t, a, order)
	n, _ := lost(t, b, order)
	_, k := best(t, a)
	_, l := best(t, b)
	if m > n || k > l {
		t.Errorf("Lost, Best of %v, %v: %d, %d, of %v: %d, %d", a, order, m, k, b, n, l)
	}
	return other || m != n || k != l
}

// P8.11: one more hire.
func TestOneMoreHire(t *testing.T) {
	kept, other, grown := 0, 0, 0
	eachYard(t, func(t *testing.T, y dry.Yard, rnd *rand.Rand) {
		if len(y.Hires) == api.MaxDryHires || len(y.Chairs) == 0 {
			return
		}
		a, tides := leave(t, y), tidesOf(y)
		for range 4 {
			more := copied(y)
			more.Hires = slices.Insert(more.Hires, rnd.Intn(len(y.Hires)+1), someHire(rnd, y, tides[rnd.Intn(len(tides))]))
			b := leave(t, more)
			if len(b) < len(a) || len(b) > len(a)+1 {
				t.Errorf("Leave of %v: %v, of %v: %v", y, a, more, b)
			}
			grown += len(b) - len(a)
			if hasTruth(t, more) {
				kept++
				if narrower(t, more, y, someOrder(rnd, len(y.Chairs))) {
					other++
				}
			}
		}
	})
	atLeast(t, kept, 400, "yards that have a truth with one more hire")
	atLeast(t, other, 40, "hires that change what is known")
	atLeast(t, grown, 100, "smallest sets that are longer with one more hire")
}

// P8.12 and P6: the hires before the first wrong one, and with it.
func TestHiresUpToTheFirstWrongOne(t *testing.T) {
	met := 0
	eachYard(t, func(t *testing.T, y dry.Yard, rnd *rand.Rand) {
		n, e := dry.First(y)
		if (e == api.ErrNone) != hasTruth(t, y) {
			t.Errorf("First of %v: %v", y, e)
		}
		if e != api.OK {
			return
		}
		met++
		before, upTo := copied(y), copied(y)
		before.Hires, upTo.Hires = before.Hires[:n], upTo.Hires[:n+1]
		if !hasTruth(t, before) || hasTruth(t, upTo) {
			t.Errorf("First of %v: %d", y, n)
		}
	})
	atLeast(t, met, 100, "yards with a first wrong hire")
}

// P8.13, P5 and P6: no set before the smallest one can be left out.
func TestSmallestSet(t *testing.T) {
	met := 0
	eachYard(t, func(t *testing.T, y dry.Yard, rnd *rand.Rand) {
		l := leave(t, y)
		if !hasTruth(t, without(y, l)) {
			t.Errorf("Leave of %v: %v, but there is no truth without it", y, l)
		}
		for _, other := range subsets(len(y.Hires)) {
			if slices.Equal(other, l) {
				break
			}
			met++
			if hasTruth(t, without(y, other)) {
				t.Errorf("Leave of %v: %v, but there is a truth without %v", y, l, other)
			}
		}
	})
	atLeast(t, met, 200, "sets before the smallest one")
}

// sameNumbers wants that what two yards say of an order is the same, and that sets
// are of the same size.
func sameNumbers(t *testing.T, a, b dry.Yard, order []int) {
	t.Helper()
	if l, m := leave(t, a), leave(t, b); len(l) != len(m) {
		t.Errorf("Leave of %v: %v, of %v: %v", a, l, b, m)
	}
	if hasTruth(t, a) != hasTruth(t, b) {
		t.Errorf("%v and %v", a, b)
	}
	if hasTruth(t, a) && narrower(t, a, b, order) {
		t.Errorf("%v and %v, by %v", a, b, order)
	}
}

// P7: hires and marks in any order.
func TestAnyOrder(t *testing.T) {
	eachYard(t, func(t *testing.T, y dry.Yard, rnd *rand.Rand) {
		x := copied(y)
		rnd.Shuffle(len(x.Hires), func(i, j int) { x.Hires[i], x.Hires[j] = x.Hires[j], x.Hires[i] })
		slices.Reverse(x.Table.Marks)
		sameNumbers(t, y, x, someOrder(rnd, len(y.Chairs)))
	})
}

// R3: nil and a list without elements.
func TestNilIsEmpty(t *testing.T) {
	empty := dry.Yard{Table: tideOf(3), Chairs: []dry.Chair{}, Order: []int{}, Hires: []dry.Hire{}}
	empty.Table.Levels, empty.Table.Marks = []int{}, []tide.Mark{}
	none := dry.Yard{Table: tideOf(3)}
	none.Table.Levels = nil
	for _, y := range []dry.Yard{empty, none} {
		for _, order := range [][]int{nil, {}} {
			if l := play(t, y, order, list(3)); len(l) != 0 {
				t.Errorf("Play of %v: %v", y, l)
			}
			if n, worst := lost(t, y, order); n != 0 || !slices.Equal(worst, list(3)) || !dry.ProveOrder(y, order, 0) {
				t.Errorf("Lost of %v: %d, %v", y, n, worst)
			}
		}
		if order, n := best(t, y); len(order) != 0 || n != 0 {
			t.Errorf("Best of %v: %v, %d", y, order, n)
		}
		if l := leave(t, y); len(l) != 0 || !dry.ProveTruth(y, list(3)) {
			t.Errorf("Leave of %v: %v", y, l)
		}
		expect(t, finding, y, asked{}, api.ErrNone)
		expect(t, playing, y, asked{}, api.ErrRange)
		expect(t, playing, y, asked{heights: []int{}}, api.ErrRange)
	}
}

func sameYard(a, b dry.Yard) bool {
	x, y := a.Table, b.Table
	return x.Last == y.Last && x.Step == y.Step && slices.Equal(x.Heights, y.Heights) && slices.Equal(x.Levels, y.Levels) && slices.Equal(x.Marks, y.Marks) &&
		a.Hands == b.Hands && slices.Equal(a.Chairs, b.Chairs) && slices.Equal(a.Order, b.Order) && slices.Equal(a.Hires, b.Hires)
}

// R4: arguments are not written to, also not behind their ends.
func TestArgumentsAreKept(t *testing.T) {
	whole := example(0, 1, 2, 2, 0, 3, 1, 1, 7, 7)
	whole.Table.Heights = append(whole.Table.Heights, ranges(77, 78)...)
	whole.Table.Levels = append(whole.Table.Levels, 77)
	whole.Table.Marks = []tide.Mark{mark(1, 1, 5, 6), mark(7, 7, 7, 7)}
	whole.Chairs = append(whole.Chairs, dry.Chair{Row: 7, Hours: 7, Rot: 7})
	whole.Order = list(2, 1, 77)
	order, heights := list(1, 0, 2, 77), list(3, 5, 8, 4, 77)
	kept, keptOrder, keptHeights := copied(whole), slices.Clone(order), slices.Clone(heights)
	for many := range 5 {
		y := whole
		y.Table.Heights, y.Table.Levels, y.Table.Marks = y.Table.Heights[:4], y.Table.Levels[:3], y.Table.Marks[:1]
		y.Chairs, y.Order, y.Hires = y.Chairs[:3], y.Order[:2], y.Hires[:many]
		for end := range 4 {
			callAll(y, asked{order[:end], heights[:4], 1, 2}, 3)
			expect(t, playing, y, asked{order: order[:end], heights: heights[:4]}, api.OK)
		}
	}
	if !sameYard(whole, kept) || !slices.Equal(order, keptOrder) || !slices.Equal(heights, keptHeights) {
		t.Errorf("%v, %v, %v became %v, %v, %v", kept, keptOrder, keptHeights, whole, order, heights)
	}
}

// R4: results are in memory of their own, also behind their ends.
func TestResultsAreApart(t *testing.T) {
	y, heights := example(0, 1, 1, 1), list(3, 6, 8, 4)
	kept := copied(y)
	for range 2 {
		stays := play(t, y, nil, heights)
		for chair, s := range stays {
			stays[chair].Free = append(s.Free, 77, 77, 77, 77)
		}
		if !slices.Equal(stays[0].Free, list(0, 77, 77, 77, 77)) || !slices.Equal(stays[2].Free, list(0, 1, 2, 3, 77, 77, 77, 77)) {
			t.Errorf("stays share memory: %v", stays)
		}
		left := leave(t, y)
		n, worst := lost(t, example(), nil)
		order, loss := best(t, example())
		if !slices.Equal(left, list(1)) || n != 3 || rotten(y, nil, worst) != 3 || loss != 0 || rotten(y, order, worst) != 0 {
			t.Errorf("results: %v, %d, %v, %v, %d", left, n, worst, order, loss)
		}
		for _, l := range [][]int{left, worst, order, stays[0].Free, stays[2].Free} {
			for i := range l {
				l[i] = 77
			}
		}
	}
	if !sameYard(y, kept) || !slices.Equal(heights, list(3, 6, 8, 4)) {
		t.Errorf("a result shares memory with an argument: %v, %v", y, heights)
	}
}

// A call with equal arguments returns equal results.
func TestAgain(t *testing.T) {
	eachTrue(t, func(t *testing.T, y dry.Yard, _ [][]int, rnd *rand.Rand) {
		order := someOrder(rnd, len(y.Chairs))
		sameNumbers(t, y, copied(y), order)
		m, worst := lost(t, y, order)
		n, other := lost(t, copied(y), order)
		if m != n || !slices.Equal(worst, other) {
			t.Errorf("Lost of %v: %d, %v and %d, %v", y, m, worst, n, other)
		}
		l, _ := best(t, y)
		if x, _ := best(t, copied(y)); !slices.Equal(l, x) {
			t.Errorf("Best of %v: %v and %v", y, l, x)
		}
	})
}

// widest returns a yard with many truths, and as many chairs, marks and hires as
// there can be.
func widest() dry.Yard {
	y := dry.Yard{
		Table:  tide.Table{Last: 9, Heights: ranges(0, 2, 0, 2, 0, 2, 0, 2, 0, 1, 0, 1, 0, 1, 0, 1, 1, 1, 0, 0), Step: 9, Levels: list(0, 1, 0, 1, 0, 0)},
		Hands:  1,
		Order:  list(4, 3, 2, 1, 0),
		Hires:  hires(0, 9, 1, 9, 2, 9, 3, 9, 4, 9),
		Chairs: []dry.Chair{{Row: 0, Rot: 9}, {Row: 1, Rot: 8}, {Row: 2, Rot: 7}, {Row: 3, Rot: 6}, {Row: 5, Rot: 5}},
	}
	y.Table.Marks = slices.Repeat([]tide.Mark{mark(0, 9, 0, 9)}, api.MaxTideMarks)
	return y
}

// P5: a yard with many truths.
func TestWidest(t *testing.T) {
	y := widest()
	truths := truthsOf(y)
	if len(truths) != 1296 {
		t.Fatalf("%d truths", len(truths))
	}
	order, n := best(t, y)
	if n != lossOf(y, truths, order) {
		t.Errorf("Best: %v, %d", order, n)
	}
	for chair := range y.Chairs {
		if r := hours(t, y, nil, chair); r != hoursOf(y, truths, nil, chair) {
			t.Errorf("Hours of %d: %v", chair, r)
		}
	}
	if l := leave(t, y); len(l) != 0 {
		t.Errorf("Leave: %v", l)
	}
}
