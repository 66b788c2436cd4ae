package walk_test

import (
	"math/rand"
	"slices"
	"testing"

	"foreshore/api"
	"foreshore/count"
	"foreshore/walk"
)

// inside reports whether each of the first ranges is in the second one.
func inside(a, b []walk.Range) bool {
	for i, r := range a {
		if r.Lo < b[i].Lo || r.Hi > b[i].Hi {
			return false
		}
	}
	return true
}

func (l limits) inside(other limits) bool {
	return inside(l.morning, other.morning) && inside(l.evening, other.evening) && inside(l.over, other.over) && inside([]walk.Range{l.carried}, []walk.Range{other.carried})
}

// proved returns the walks of a day, as ProveWalk says, with the numbers that go
// with them, as Play says.
func proved(t *testing.T, d walk.Day) []gone {
	t.Helper()
	var out []gone
	mornings, evenings := combinations(numbersOf(d.Morning)), numbersOf(d.Evening)
	for _, w := range allWalks(len(d.Morning) - 1) {
		if !walk.ProveWalk(d, w) {
			continue
		}
		many := len(out)
		for _, morning := range mornings {
			if evening := play(t, d, morning, w); areIn(evening, evenings) {
				out = append(out, gone{w, morning, evening})
			}
		}
		if len(out) == many {
			t.Errorf("no numbers go with %v, a walk of %v", w, d)
		}
	}
	return out
}

// isLong reports whether it takes long to try all that can be in a day.
func isLong(d walk.Day) bool { return len(d.Morning) > 2 }

// P6.5 and P2: what is returned holds in each walk that is proved, and both ends
// are reached.
func TestInEachWalk(t *testing.T) {
	long := 0
	eachWalked(t, func(t *testing.T, d walk.Day, rnd *rand.Rand) {
		if isLong(d) {
			if long++; long > 12 {
				return
			}
		}
		own := proved(t, d)
		if l := found(t, d); !l.equal(limitsOf(own)) {
			t.Errorf("Chairs, Over, Carried of %v: %v, but %v", d, l, limitsOf(own))
		}
		if l := leave(t, d); len(l) != 0 {
			t.Errorf("Leave of %v: %v", d, l)
		}
	})
}

// P6.5 and P6: lines that are right in some walk that explains the counts need not
// be left out.
func TestLinesThatAreRight(t *testing.T) {
	met := 0
	eachExplained(t, func(t *testing.T, d walk.Day, rnd *rand.Rand) {
		bare := copied(d)
		bare.Lines = nil
		walks := allWalks(len(d.Morning) - 1)
		many := len(leave(t, d))
		for range 60 {
			w := walks[rnd.Intn(len(walks))]
			if !walk.ProveWalk(bare, w) {
				continue
			}
			wrong := 0
			for _, l := range d.Lines {
				if !isRight(l, w) {
					wrong++
				}
			}
			met++
			if wrong < many {
				t.Errorf("Leave of %v: %d lines, but in %v %d are wrong", d, many, w, wrong)
			}
		}
	})
	atLeast(t, met, 1000, "walks that explain the counts")
}

// P6.6 and P4: nothing is lost, and no numbers are others than those of layer 1.
func TestNothingIsLost(t *testing.T) {
	eachDay(t, func(t *testing.T, d walk.Day, rnd *rand.Rand) {
		mornings, walks := combinations(numbersOf(d.Morning)), allWalks(len(d.Morning)-1)
		for range 20 {
			morning, w := mornings[rnd.Intn(len(mornings))], walks[rnd.Intn(len(walks))]
			if l := play(t, d, morning, w); sum(l) != sum(morning) || len(l) != len(morning) {
				t.Errorf("Play of %v, %v, %v: %v", d, morning, w, l)
			}
		}
	})
	eachWalked(t, func(t *testing.T, d walk.Day, rnd *rand.Rand) {
		l := found(t, d)
		if !inside(l.morning, numbersOf(d.Morning)) || !inside(l.evening, numbersOf(d.Evening)) {
			t.Errorf("Chairs of %v: %v, %v", d, l.morning, l.evening)
		}
	})
}

// P6.7 and P5: no walk of the day carries fewer chairs, nor as few and is before
// the fewest one.
func TestNoFewerWalk(t *testing.T) {
	met := 0
	eachWalked(t, func(t *testing.T, d walk.Day, rnd *rand.Rand) {
		best := fewest(t, d)
		if !walk.ProveWalk(d, best) || sum(best) != found(t, d).carried.Lo {
			t.Errorf("Fewest of %v: %v", d, best)
		}
		for _, w := range allWalks(len(d.Morning) - 1) {
			if sum(w) > sum(best) || sum(w) == sum(best) && slices.Compare(w, best) >= 0 {
				continue
			}
			met++
			if walk.ProveWalk(d, w) {
				t.Errorf("Fewest of %v: %v, but %v", d, best, w)
			}
		}
	})
	atLeast(t, met, 1000, "walks that would be fewer")
}

// P6.7: over a border that no line is about, chairs are not carried in both ways.
func TestOneWay(t *testing.T) {
	met := 0
	eachWalked(t, func(t *testing.T, d walk.Day, rnd *rand.Rand) {
		about := rnd.Intn(len(d.Morning) - 1)
		x := copied(d)
		x.Lines = slices.DeleteFunc(x.Lines, func(l walk.Line) bool { return l.Border == about })
		l := fewest(t, x)
		if l[2*about] > 0 && l[2*about+1] > 0 {
			t.Errorf("Fewest of %v: %v", x, l)
		}
		met += l[2*about] + l[2*about+1]
	})
	atLeast(t, met, 100, "chairs that are carried over such borders")
}

// narrower wants that in the first day, which has a walk, no bounds are wider than
// in the second one, and the fewest walk carries no fewer chairs.
func narrower(t *testing.T, a, b walk.Day) {
	t.Helper()
	l, m := found(t, a), found(t, b)
	if !l.inside(m) {
		t.Errorf("Chairs, Over, Carried of %v: %v, of %v: %v", a, l, b, m)
	}
	if p, q := fewest(t, a), fewest(t, b); sum(p) < sum(q) {
		t.Errorf("Fewest of %v: %v, of %v: %v", a, p, b, q)
	}
}

// P6.8: one more line.
func TestOneMoreLine(t *testing.T) {
	kept, grown := 0, 0
	eachExplained(t, func(t *testing.T, d walk.Day, rnd *rand.Rand) {
		if len(d.Lines) == api.MaxWalkLines {
			return
		}
		_, hidden := someWalk(rnd, len(d.Morning)-1)
		more := with(d, someLine(rnd, hidden))
		a, b := leave(t, d), leave(t, more)
		if len(b) < len(a) || len(b) > len(a)+1 {
			t.Errorf("Leave of %v: %v, of %v: %v", d, a, more, b)
		}
		grown += len(b) - len(a)
		if hasWalk(t, more) {
			kept++
			narrower(t, more, d)
		}
	})
	atLeast(t, kept, 50, "days that have a walk with one more line")
	atLeast(t, grown, 50, "smallest sets that are longer with one more line")
}

// P6.9: one more count.
func TestOneMoreCount(t *testing.T) {
	kept, changed := 0, 0
	eachWalked(t, func(t *testing.T, d walk.Day, rnd *rand.Rand) {
		more := copied(d)
		r := &more.Morning[rnd.Intn(len(d.Morning))]
		if rnd.Intn(2) == 0 {
			r = &more.Evening[rnd.Intn(len(d.Evening))]
		}
		many := rnd.Intn(len(r.Places) + 1)
		r.Counts = append(r.Counts, count.Count{Back: rnd.Intn(2) == 0, Many: many, Number: rnd.Intn(many + 1)})
		if _, e := walk.Carried(more); e != api.OK {
			return
		}
		kept++
		narrower(t, more, d)
		if !found(t, more).equal(found(t, d)) {
			changed++
		}
	})
	atLeast(t, kept, 50, "days that have a walk with one more count")
	atLeast(t, changed, 10, "days with other bounds with one more count")
}

// P6.10: a wider range of a line.
func TestWiderLine(t *testing.T) {
	met, better := map[bool]int{}, 0
	eachExplained(t, func(t *testing.T, d walk.Day, rnd *rand.Rand) {
		if len(d.Lines) == 0 {
			return
		}
		x := copied(d)
		r := &x.Lines[rnd.Intn(len(x.Lines))].Many
		*r = to(within(r.Lo-rnd.Intn(4)), within(r.Hi+rnd.Intn(4)))
		a, b := leave(t, d), leave(t, x)
		if len(b) > len(a) {
			t.Errorf("Leave of %v: %v, of %v: %v", d, a, x, b)
		}
		better += len(a) - len(b)
		isOwn := hasWalk(t, d)
		met[isOwn]++
		if isOwn {
			narrower(t, d, x)
		}
	})
	atLeast(t, met[true], 50, "wider lines of days that have a walk")
	atLeast(t, met[false], 50, "wider lines of days that have none")
	atLeast(t, better, 10, "smallest sets that are shorter with a wider line")
}

// reversed returns the day with the stretches numbered the other way round.
func reversed(d walk.Day) walk.Day {
	d = copied(d)
	slices.Reverse(d.Morning)
	slices.Reverse(d.Evening)
	for i, l := range d.Lines {
		d.Lines[i].Border, d.Lines[i].Left = len(d.Morning)-2-l.Border, !l.Left
	}
	return d
}

// backwards returns the day with Morning and Evening exchanged.
func backwards(d walk.Day) walk.Day {
	d = copied(d)
	d.Morning, d.Evening = d.Evening, d.Morning
	for i, l := range d.Lines {
		d.Lines[i].Left = !l.Left
	}
	return d
}

// sameNumbers wants that as many chairs are carried at least, and that as many
// lines have to be left out.
func sameNumbers(t *testing.T, a, b walk.Day) {
	t.Helper()
	if l, m := leave(t, a), leave(t, b); len(l) != len(m) {
		t.Errorf("Leave of %v: %v, of %v: %v", a, l, b, m)
	}
	if hasWalk(t, a) != hasWalk(t, b) {
		t.Errorf("%v and %v", a, b)
	}
	if !hasWalk(t, a) {
		return
	}
	if l, m := fewest(t, a), fewest(t, b); sum(l) != sum(m) {
		t.Errorf("Fewest of %v: %v, of %v: %v", a, l, b, m)
	}
}

// P6.11: the stretches the other way round, and the evening before the morning.
func TestTurnedRound(t *testing.T) {
	eachExplained(t, func(t *testing.T, d walk.Day, rnd *rand.Rand) {
		turned, back := reversed(d), backwards(d)
		sameNumbers(t, d, turned)
		sameNumbers(t, d, back)
		if !hasWalk(t, d) {
			return
		}
		want := found(t, d)
		l := found(t, turned)
		slices.Reverse(l.morning)
		slices.Reverse(l.evening)
		slices.Reverse(l.over) // This exchanges left and right, too.
		if !l.equal(want) {
			t.Errorf("Chairs, Over, Carried of %v the other way round: %v", d, l)
		}
		l = found(t, back)
		l.morning, l.evening = l.evening, l.morning
		for i := 0; i < len(l.over); i += 2 {
			l.over[i], l.over[i+1] = l.over[i+1], l.over[i]
		}
		if !l.equal(want) {
			t.Errorf("Chairs, Over, Carried of %v backwards: %v", d, l)
		}
	})
}

// P6.12 and P6: the lines before the first wrong one, and with it.
func TestLinesUpToTheFirstWrongOne(t *testing.T) {
	met := 0
	eachExplained(t, func(t *testing.T, d walk.Day, rnd *rand.Rand) {
		n, e := walk.First(d)
		if (e == api.ErrNone) != hasWalk(t, d) {
			t.Errorf("First of %v: %v", d, e)
		}
		if e != api.OK {
			return
		}
		met++
		before, upTo := copied(d), copied(d)
		before.Lines, upTo.Lines = before.Lines[:n], upTo.Lines[:n+1]
		if !hasWalk(t, before) || hasWalk(t, upTo) {
			t.Errorf("First of %v: %d", d, n)
		}
	})
	atLeast(t, met, 100, "days with a first wrong line")
}

// P6.13, P5 and P6: no set before the smallest one can be left out.
func TestSmallestSet(t *testing.T) {
	met := 0
	eachExplained(t, func(t *testing.T, d walk.Day, rnd *rand.Rand) {
		l := leave(t, d)
		if !hasWalk(t, without(d, l)) {
			t.Errorf("Leave of %v: %v, but there is no walk without it", d, l)
		}
		for _, other := range subsets(len(d.Lines)) {
			if slices.Equal(other, l) {
				break
			}
			met++
			if hasWalk(t, without(d, other)) {
				t.Errorf("Leave of %v: %v, but there is a walk without %v", d, l, other)
			}
		}
	})
	atLeast(t, met, 200, "sets before the smallest one")
}

// P7: lines, and counts of a row, in any order.
func TestAnyOrder(t *testing.T) {
	eachExplained(t, func(t *testing.T, d walk.Day, rnd *rand.Rand) {
		x := copied(d)
		rnd.Shuffle(len(x.Lines), func(i, j int) { x.Lines[i], x.Lines[j] = x.Lines[j], x.Lines[i] })
		for _, r := range slices.Concat(x.Morning, x.Evening) {
			slices.Reverse(r.Counts)
		}
		sameNumbers(t, d, x)
		if hasWalk(t, d) && (!found(t, x).equal(found(t, d)) || !slices.Equal(fewest(t, x), fewest(t, d))) {
			t.Errorf("%v and %v", d, x)
		}
	})
}

// R3: nil and a list without elements.
func TestNilIsEmpty(t *testing.T) {
	a, b := day(ranges(3, 3, 1, 1, 2, 2, 2, 2)), day(ranges(3, 3, 1, 1, 2, 2, 2, 2))
	b.Lines, b.Morning[0].Counts = []walk.Line{}, []count.Count{}
	for _, d := range []walk.Day{a, b} {
		if l := found(t, d); !l.equal(limits{ranges(3, 3, 1, 1), ranges(2, 2, 2, 2), ranges(1, 6, 0, 5), to(1, 11)}) {
			t.Errorf("Chairs, Over, Carried of %v: %v", d, l)
		}
		if l := leave(t, d); len(l) != 0 {
			t.Errorf("Leave of %v: %v", d, l)
		}
		expect(t, finding, d, asked{}, api.ErrNone)
		for _, none := range [][]int{nil, {}} {
			expect(t, playing, d, asked{morning: none, walk: list(0, 0)}, api.ErrRange)
			expect(t, playing, d, asked{morning: list(3, 1), walk: none}, api.ErrRange)
			if walk.ProveWalk(d, none) {
				t.Errorf("proved: %v", none)
			}
		}
	}
	for _, d := range []walk.Day{{}, {Morning: []count.Row{}, Evening: []count.Row{}, Lines: []walk.Line{}}} {
		if e := walk.CheckDay(d); e != api.ErrArg {
			t.Errorf("CheckDay of %v: %v", d, e)
		}
	}
	for _, none := range [][]int{nil, {}} {
		if e := walk.CheckDay(walk.Day{Morning: []count.Row{places(1), places(none...)}, Evening: rows(ranges(1, 1, 1, 1)...)}); e != api.ErrArg {
			t.Errorf("CheckDay of a row without places: %v", e)
		}
	}
}

// sameDay reports whether two days are equal.
func sameDay(a, b walk.Day) bool {
	sameRow := func(r, s count.Row) bool {
		return slices.Equal(r.Places, s.Places) && slices.Equal(r.Counts, s.Counts) && r.Wrong == s.Wrong && r.Off == s.Off
	}
	return slices.EqualFunc(a.Morning, b.Morning, sameRow) && slices.EqualFunc(a.Evening, b.Evening, sameRow) && slices.Equal(a.Lines, b.Lines)
}

// R4: arguments are not written to, also not behind their ends.
func TestArgumentsAreKept(t *testing.T) {
	whole := example(right(0, 2, 6), right(0, 2, 2), left(0, 0, 1), right(0, 1, 1), left(7, 7, 7))
	whole.Morning, whole.Evening = append(whole.Morning, places(7)), append(whole.Evening, places(7, 7))
	for i := range whole.Morning {
		whole.Morning[i].Places = append(whole.Morning[i].Places, 7)
	}
	numbers, steps := list(3, 2, 77), list(2, 0, 77)
	kept, keptNumbers, keptSteps := copied(whole), slices.Clone(numbers), slices.Clone(steps)
	for lines := range 5 {
		d := whole
		d.Morning, d.Evening, d.Lines = slices.Clone(d.Morning[:2]), d.Evening[:2], d.Lines[:lines]
		for i, r := range d.Morning {
			d.Morning[i].Places = r.Places[:len(r.Places)-1]
		}
		callAll(d, asked{morning: numbers[:2], walk: steps[:2], stretch: 1})
		expect(t, playing, d, asked{morning: numbers[:2], walk: steps[:2]}, api.OK)
	}
	if !sameDay(whole, kept) || !slices.Equal(numbers, keptNumbers) || !slices.Equal(steps, keptSteps) {
		t.Errorf("%v, %v, %v became %v, %v, %v", kept, keptNumbers, keptSteps, whole, numbers, steps)
	}
}

// R4: results are in memory of their own.
func TestResultsAreApart(t *testing.T) {
	d, numbers, steps := example(right(0, 2, 6), right(0, 0, 1)), list(3, 2), list(0, 0)
	good := example(right(0, 2, 6))
	for range 2 {
		evening, way, left := play(t, d, numbers, steps), fewest(t, good), leave(t, d)
		if !slices.Equal(evening, list(3, 2)) || !slices.Equal(way, list(2, 0)) || !slices.Equal(left, list(0)) {
			t.Errorf("results: %v, %v, %v", evening, way, left)
		}
		for _, l := range [][]int{evening, way, left} {
			for i := range l {
				l[i] = 77
			}
		}
	}
	if !slices.Equal(numbers, list(3, 2)) || !slices.Equal(steps, list(0, 0)) || !sameDay(d, example(right(0, 2, 6), right(0, 0, 1))) {
		t.Errorf("a result shares memory with an argument: %v, %v, %v", numbers, steps, d)
	}
}

// A call with equal arguments returns equal results.
func TestAgain(t *testing.T) {
	eachWalked(t, func(t *testing.T, d walk.Day, rnd *rand.Rand) {
		if l, m := found(t, d), found(t, copied(d)); !l.equal(m) {
			t.Errorf("Chairs, Over, Carried of %v: %v and %v", d, l, m)
		}
		if l, m := fewest(t, d), fewest(t, copied(d)); !slices.Equal(l, m) {
			t.Errorf("Fewest of %v: %v and %v", d, l, m)
		}
		if l, m := leave(t, d), leave(t, copied(d)); !slices.Equal(l, m) {
			t.Errorf("Leave of %v: %v and %v", d, l, m)
		}
	})
}
