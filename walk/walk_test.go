package walk_test

import (
	"math/rand"
	"slices"
	"testing"

	"foreshore/api"
	"foreshore/count"
	"foreshore/walk"
)

func list(l ...int) []int { return l }

func TestExamples(t *testing.T) {
	if e := walk.CheckDay(example()); e != api.OK {
		t.Errorf("CheckDay: %v", e)
	}
	if l := play(t, example(), list(3, 2), list(4, 3)); !slices.Equal(l, list(2, 3)) {
		t.Errorf("Play: %v", l)
	}
	want := limits{ranges(3, 3, 1, 2), ranges(1, 2, 3, 3), ranges(1, 6, 0, 5), to(1, 11)}
	if l := found(t, example()); !l.equal(want) {
		t.Errorf("Chairs, Over, Carried: %v", l)
	}
	two := example(right(0, 2, 6), left(0, 3, 3))
	for _, x := range []struct {
		d    walk.Day
		want []int
	}{{example(), list(1, 0)}, {example(right(0, 2, 6)), list(2, 0)}, {two, list(4, 3)}} {
		if l := fewest(t, x.d); !slices.Equal(l, x.want) {
			t.Errorf("Fewest of %v: %v", x.d, l)
		}
	}
	if l := found(t, two); !slices.Equal(l.over, ranges(4, 5, 3, 3)) {
		t.Errorf("Over with both lines: %v", l.over)
	}
	wrong := example(right(0, 2, 6), right(0, 0, 1))
	if n, e := walk.First(wrong); n != 1 || e != api.OK {
		t.Errorf("First: %d, %v", n, e)
	}
	if l := leave(t, wrong); !slices.Equal(l, list(0)) {
		t.Errorf("Leave: %v", l)
	}
}

// The sixth example of the document: 3 chairs in the morning and 1 in the evening
// are explained by 2 that were carried away.
func TestThreeAndOneAreTwoCarried(t *testing.T) {
	d := day(ranges(3, 3, 0, 9, 1, 1, 0, 9))
	if l := fewest(t, d); !slices.Equal(l, list(2, 0)) {
		t.Errorf("Fewest: %v", l)
	}
	if l := found(t, d); !slices.Equal(l.over, ranges(2, 6, 0, 4)) {
		t.Errorf("Over: %v", l.over)
	}
}

// P6.1 by hand: the stretch in the middle has two borders, and there may be no
// chairs that could be carried.
func TestPlayByHand(t *testing.T) {
	d := day(ranges(0, 3, 2, 2, 1, 5, 0, 9, 0, 9, 0, 9))
	for _, x := range []struct{ morning, walk, want []int }{
		{list(0, 2, 1), list(0, 0, 0, 0), list(0, 2, 1)},
		{list(3, 2, 5), list(1, 0, 0, 0), list(2, 3, 5)},
		{list(3, 2, 5), list(0, 1, 0, 0), list(4, 1, 5)},
		{list(3, 2, 5), list(0, 0, 1, 0), list(3, 1, 6)},
		{list(3, 2, 5), list(0, 0, 0, 1), list(3, 3, 4)},
		{list(1, 2, 1), list(6, 6, 6, 6), list(1, 2, 1)},
		{list(0, 2, 1), list(6, 0, 6, 0), list(-6, 2, 7)},
		{list(0, 2, 1), list(0, 6, 6, 0), list(6, -10, 7)},
		{list(3, 2, 5), list(6, 0, 0, 6), list(-3, 14, -1)},
		{list(2, 2, 4), list(5, 1, 2, 3), list(-2, 7, 3)},
	} {
		if l := play(t, d, x.morning, x.walk); !slices.Equal(l, x.want) {
			t.Errorf("Play of %v, %v: %v", x.morning, x.walk, l)
		}
	}
}

// gaps is a row with 1 chair or with 3, but not with 2.
func gaps() count.Row {
	r := places(2, 2, 2)
	r.Counts = []count.Count{{Many: 3, Number: 1}, {Back: true, Many: 3, Number: 3}}
	r.Wrong, r.Off = 1, 2
	return r
}

// A morning's number, and an evening's one, is each one of the range, also one that
// no truth of the row has.
func TestNumbersThatNoTruthHas(t *testing.T) {
	for _, x := range []struct {
		chairs int
		want   bool
	}{{0, false}, {1, true}, {2, true}, {3, true}, {4, false}} {
		d := walk.Day{Morning: []count.Row{gaps(), row(4, 4)}, Evening: rows(to(x.chairs, x.chairs), to(4, 4))}
		turned := walk.Day{Morning: d.Evening, Evening: d.Morning}
		if walk.ProveWalk(d, list(0, 0)) != x.want || walk.ProveWalk(turned, list(0, 0)) != x.want {
			t.Errorf("ProveWalk with %d chairs is not %v", x.chairs, x.want)
		}
		if _, e := walk.Play(d, list(x.chairs, 4), list(0, 0)); (e == api.OK) != x.want {
			t.Errorf("Play with %d chairs: %v", x.chairs, e)
		}
	}
	d := walk.Day{Morning: []count.Row{gaps(), row(4, 4)}, Evening: rows(to(2, 2), to(4, 4))}
	if l := found(t, d); !l.equal(limits{ranges(2, 2, 4, 4), ranges(2, 2, 4, 4), ranges(0, 6, 0, 6), to(0, 12)}) {
		t.Errorf("Chairs, Over, Carried: %v", l)
	}
}

// P6.2 by hand: bounds that hang together, over two borders.
func TestBoundsByHand(t *testing.T) {
	for _, x := range []struct {
		d    walk.Day
		want limits
	}{
		{day(ranges(0, 9, 0, 9, 0, 9, 0, 9)), limits{ranges(0, 9, 0, 9), ranges(0, 9, 0, 9), ranges(0, 6, 0, 6), to(0, 12)}},
		{day(ranges(0, 9, 0, 9, 0, 9, 0, 9), right(0, 6, 12), left(0, 0, 0)), limits{ranges(6, 9, 0, 3), ranges(0, 3, 6, 9), ranges(6, 6, 0, 0), to(6, 6)}},
		{day(ranges(0, 9, 0, 9, 0, 9, 0, 9), right(0, 1, 2), left(0, 4, 5)), limits{ranges(0, 7, 2, 9), ranges(2, 9, 0, 7), ranges(1, 2, 4, 5), to(5, 7)}},
		{day(ranges(2, 2, 4, 4, 6, 6, 6, 6, 4, 4, 2, 2), left(0, 4, 4)), limits{ranges(2, 2, 4, 4, 6, 6), ranges(6, 6, 4, 4, 2, 2), ranges(0, 0, 4, 4, 0, 2, 4, 6), to(8, 12)}},
		{day(ranges(0, 1, 0, 1, 0, 1, 0, 1, 0, 1, 0, 1), right(0, 0, 0), left(0, 0, 0)), limits{ranges(0, 1, 0, 1, 0, 1), ranges(0, 1, 0, 1, 0, 1), ranges(0, 0, 0, 0, 0, 6, 0, 6), to(0, 12)}},
		{day(ranges(9, 9, 0, 0, 0, 0, 3, 3, 0, 9, 0, 9)), limits{ranges(9, 9, 0, 0, 0, 0), ranges(3, 3, 0, 6, 0, 6), ranges(6, 6, 0, 0, 0, 6, 0, 6), to(6, 18)}},
	} {
		if l := found(t, x.d); !l.equal(x.want) {
			t.Errorf("Chairs, Over, Carried of %v: %v", x.d, l)
		}
	}
}

// P6.3 by hand: of several walks with as few chairs the lexicographically first
// one, and lines that want chairs to be carried both ways.
func TestFewestByHand(t *testing.T) {
	for _, x := range []struct {
		d    walk.Day
		want []int
	}{
		{day(ranges(0, 9, 0, 9, 0, 9, 0, 9)), list(0, 0)},
		{day(ranges(2, 3, 2, 3, 2, 3, 2, 3)), list(0, 0)},
		{day(ranges(3, 3, 3, 3, 2, 4, 2, 4), right(0, 1, 6)), list(1, 0)},
		{day(ranges(3, 3, 3, 3, 3, 3, 3, 3), right(0, 1, 6)), list(1, 1)},
		{day(ranges(3, 3, 3, 3, 2, 4, 2, 4, 3, 3, 3, 3)), list(0, 0, 0, 0)},
		{day(ranges(3, 3, 3, 3, 3, 3, 2, 4, 2, 2, 2, 4)), list(0, 0, 1, 0)},
		{day(ranges(3, 3, 3, 3, 3, 3, 2, 4, 4, 4, 2, 4)), list(0, 0, 0, 1)},
		{day(ranges(3, 3, 3, 3, 3, 3, 2, 2, 2, 4, 4, 4)), list(1, 0, 1, 0)},
		{day(ranges(3, 3, 3, 3, 3, 3, 1, 5, 1, 1, 1, 5), left(0, 1, 6)), list(0, 1, 1, 0)},
		{day(ranges(3, 3, 3, 3, 3, 3, 1, 5, 1, 1, 1, 5), right(1, 0, 0)), list(0, 2, 0, 0)},
		{day(ranges(3, 3, 3, 3, 3, 3, 4, 4, 1, 5, 1, 5), right(1, 2, 2), left(1, 2, 3)), list(0, 1, 2, 2)},
		{day(ranges(3, 3, 3, 3, 3, 3, 2, 4, 4, 4, 2, 4), left(0, 0, 0), right(1, 0, 0)), list(0, 0, 0, 1)},
	} {
		if l := fewest(t, x.d); !slices.Equal(l, x.want) {
			t.Errorf("Fewest of %v: %v", x.d, l)
		}
	}
}

// P6.4 by hand: several sets of the same length, lines that are false alone, and
// lines that are false only together.
func TestFirstAndLeaveByHand(t *testing.T) {
	for _, x := range []struct {
		d     walk.Day
		first int
		e     api.Errno
		leave []int
	}{
		{example(), 0, api.ErrNone, nil},
		{example(right(0, 0, 12), left(0, 0, 12)), 0, api.ErrNone, nil},
		{example(right(0, 1, 1), left(0, 0, 0), right(0, 0, 1)), 0, api.ErrNone, nil},
		{example(right(0, 7, 12)), 0, api.OK, list(0)},
		{example(right(0, 0, 0)), 0, api.OK, list(0)},
		{example(left(0, 6, 6)), 0, api.OK, list(0)},
		{example(right(0, 2, 2), left(0, 2, 5)), 1, api.OK, list(0)},
		{example(right(0, 2, 2), left(0, 0, 1), left(0, 2, 5)), 2, api.OK, list(2)},
		{example(right(0, 2, 2), left(0, 2, 5), right(0, 3, 4)), 1, api.OK, list(0)},
		{example(right(0, 3, 4), right(0, 2, 2), left(0, 2, 5), right(0, 3, 4)), 1, api.OK, list(1)},
		{example(right(0, 1, 1), right(0, 2, 2), right(0, 3, 3), right(0, 4, 4), right(0, 5, 5)), 1, api.OK, list(0, 1, 2, 3)},
		{example(right(0, 7, 7), right(0, 8, 8), right(0, 9, 9), left(0, 6, 6), left(0, 7, 7)), 0, api.OK, list(0, 1, 2, 3, 4)},
		{example(right(0, 1, 1), left(0, 7, 7), right(0, 1, 1), right(0, 2, 2)), 1, api.OK, list(1, 3)},
		{day(ranges(2, 2, 2, 2, 2, 2, 2, 2, 2, 2, 2, 2), right(0, 1, 1), left(1, 3, 3), right(1, 2, 2), left(0, 1, 1)), 2, api.OK, list(1)},
		{day(ranges(2, 2, 2, 2, 2, 2, 2, 2, 2, 2, 2, 2), right(0, 1, 1), left(0, 2, 2), right(1, 2, 2), left(1, 1, 1)), 1, api.OK, list(0, 2)},
	} {
		if n, e := walk.First(x.d); n != x.first || e != x.e {
			t.Errorf("First of %v: %d, %v", x.d, n, e)
		}
		if l := leave(t, x.d); !slices.Equal(l, x.leave) {
			t.Errorf("Leave of %v: %v", x.d, l)
		}
	}
}

// nearLists returns lists of which one number, or the length, is another one.
func nearLists(rnd *rand.Rand, l []int) [][]int {
	out := [][]int{l[:len(l)-1], append(slices.Clone(l), 0), append(slices.Clone(l), l...), nil}
	for _, by := range []int{-7, -2, -1, 1, 2, 7, 256, 1 << 32} {
		other := slices.Clone(l)
		other[rnd.Intn(len(l))] += by
		out = append(out, other)
	}
	return out
}

// P6.1: Play, with numbers and walks of the day and ones that are near them.
func TestPlay(t *testing.T) {
	met := map[api.Errno]int{}
	eachDay(t, func(t *testing.T, d walk.Day, rnd *rand.Rand) {
		mornings, walks := numbersOf(d.Morning), allWalks(len(d.Morning)-1)
		all := combinations(mornings)
		for range 20 {
			morning, w := all[rnd.Intn(len(all))], walks[rnd.Intn(len(walks))]
			if l := play(t, d, morning, w); !slices.Equal(l, eveningOf(morning, w)) {
				t.Errorf("Play of %v, %v, %v: %v", d, morning, w, l)
			}
			for _, other := range nearLists(rnd, morning) {
				l, e := walk.Play(d, other, w)
				met[e]++
				if ok := len(other) == len(morning) && areIn(other, mornings); ok != (e == api.OK) || !ok && (e != api.ErrRange || l != nil) {
					t.Errorf("Play of %v, %v, %v: %v, %v", d, other, w, l, e)
				}
			}
			for _, other := range nearLists(rnd, w) {
				l, e := walk.Play(d, morning, other)
				met[e]++
				if ok := isWalk(d, other); ok != (e == api.OK) || !ok && (e != api.ErrRange || l != nil) {
					t.Errorf("Play of %v, %v, %v: %v, %v", d, morning, other, l, e)
				}
			}
		}
	})
	atLeast(t, met[api.OK], 1000, "results")
	atLeast(t, met[api.ErrRange], 1000, "errors")
}

func isWalk(d walk.Day, w []int) bool {
	return len(w) == 2*len(d.Morning)-2 && areIn(w, slices.Repeat([]walk.Range{to(0, 6)}, len(w)))
}

// P6.1: ProveWalk of all walks, and of lists that are near them.
func TestProveWalk(t *testing.T) {
	met := map[bool]int{}
	eachDay(t, func(t *testing.T, d walk.Day, rnd *rand.Rand) {
		own := map[string]bool{}
		for _, g := range ownOf(d) {
			own[key(g.walk)] = true
		}
		walks := allWalks(len(d.Morning) - 1)
		if len(walks) > 49 {
			rnd.Shuffle(len(walks), func(i, j int) { walks[i], walks[j] = walks[j], walks[i] })
			walks = walks[:200]
			for _, g := range ownOf(d) {
				if rnd.Intn(100) == 0 {
					walks = append(walks, g.walk)
				}
			}
		}
		for _, w := range append(walks, nearLists(rnd, walks[0])...) {
			want := own[key(w)]
			met[want]++
			if walk.ProveWalk(d, w) != want {
				t.Errorf("ProveWalk of %v, %v is not %v", d, w, want)
			}
		}
	})
	atLeast(t, met[true], 1000, "walks of days")
	atLeast(t, met[false], 1000, "walks that are not of the day")
}

// key returns a string that equal lists have alone.
func key(l []int) string {
	var b []byte
	for _, n := range l {
		b = append(b, byte('a'+min(max(n, -1), 9)))
	}
	return string(b)
}

// P6.2 and P6.3: Chairs of all stretches, Over of all borders, Carried and Fewest.
func TestBoundsAndFewest(t *testing.T) {
	met := map[api.Errno]int{}
	eachDay(t, func(t *testing.T, d walk.Day, rnd *rand.Rand) {
		went := wentOf(d)
		own := rightIn(went, d.Lines)
		want := api.OK
		switch {
		case len(went) == 0:
			want = api.ErrShort
		case len(own) == 0:
			want = api.ErrFalse
		}
		met[want]++
		for _, c := range []call{bounding, passing, carrying, saving} {
			expect(t, c, d, asked{}, want)
		}
		if want != api.OK {
			return
		}
		if l := found(t, d); !l.equal(limitsOf(own)) {
			t.Errorf("Chairs, Over, Carried of %v: %v, not %v", d, l, limitsOf(own))
		}
		if l := fewest(t, d); !slices.Equal(l, fewestOf(own)) {
			t.Errorf("Fewest of %v: %v, not %v", d, l, fewestOf(own))
		}
	})
	atLeast(t, met[api.OK], 150, "days that have a walk")
	atLeast(t, met[api.ErrFalse], 50, "days that have none")
	atLeast(t, met[api.ErrShort], 10, "days whose counts no walk explains")
}

// P6.4: First and Leave.
func TestFirstAndLeave(t *testing.T) {
	met := map[int]int{}
	eachDay(t, func(t *testing.T, d walk.Day, rnd *rand.Rand) {
		went := wentOf(d)
		if len(went) == 0 {
			met[-1]++
			expect(t, finding, d, asked{}, api.ErrShort)
			expect(t, leaving, d, asked{}, api.ErrShort)
			return
		}
		want, wantError := firstOf(went, d.Lines), api.OK
		if want < 0 {
			want, wantError = 0, api.ErrNone
		}
		if n, e := walk.First(d); n != want || e != wantError {
			t.Errorf("First of %v: %d, %v", d, n, e)
		}
		l := leave(t, d)
		met[len(l)]++
		if !slices.Equal(l, leaveOf(went, d.Lines)) {
			t.Errorf("Leave of %v: %v, not %v", d, l, leaveOf(went, d.Lines))
		}
	})
	atLeast(t, met[-1], 10, "days whose counts no walk explains")
	for many := range 3 {
		atLeast(t, met[many], 20, "smallest sets of one length")
	}
}

// The widest day: three stretches of which nothing is known, with all lines.
func TestWidestDay(t *testing.T) {
	d := day(slices.Repeat(ranges(0, 9), 6), right(0, 3, 9), left(0, 0, 1), right(1, 5, 12), left(1, 2, 2), left(0, 1, 6))
	went := wentOf(d)
	own := rightIn(went, d.Lines)
	if l := found(t, d); !l.equal(limitsOf(own)) {
		t.Errorf("Chairs, Over, Carried: %v, not %v", l, limitsOf(own))
	}
	if l := fewest(t, d); !slices.Equal(l, fewestOf(own)) {
		t.Errorf("Fewest: %v, not %v", l, fewestOf(own))
	}
	d.Lines[4] = left(0, 2, 12)
	if l := leave(t, d); !slices.Equal(l, leaveOf(went, d.Lines)) {
		t.Errorf("Leave: %v, not %v", l, leaveOf(went, d.Lines))
	}
	if n, e := walk.First(d); n != firstOf(went, d.Lines) || e != api.OK {
		t.Errorf("First: %d, %v", n, e)
	}
}
