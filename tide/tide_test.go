package tide_test

import (
	"math"
	"math/rand"
	"slices"
	"testing"

	"foreshore/api"
	"foreshore/tide"
)

const yes, no, may = tide.Always, tide.Never, tide.Perhaps

func TestExamples(t *testing.T) {
	x := example()
	if e := tide.CheckTable(x); e != api.OK {
		t.Errorf("CheckTable: %v", e)
	}
	if l := play(t, x, []int{3, 6, 8, 4}); !equal(l, [][]int{{1, 2}, {1, 2, 3}, nil}) {
		t.Errorf("Play: %v", l)
	}
	if l, e := tide.Play(x, []int{3, 6, 9, 4}); len(l) != 0 || e != api.ErrRange {
		t.Errorf("Play of a list that is not of the table: %v, %v", l, e)
	}
	if l := bounds(t, x); !slices.Equal(l, ranges(2, 4, 5, 6, 8, 9, 4, 5)) {
		t.Errorf("Bounds: %v", l)
	}
	for hour, want := range []int{no, may, yes, no} {
		if v := wet(t, x, 0, hour); v != want {
			t.Errorf("Wet of the row 0 in the hour %d: %d", hour, v)
		}
	}
	for row, want := range ranges(1, 2, 0, 1, 2, 4) {
		if r := reach(t, x, row); r != want {
			t.Errorf("Reach of the row %d: %v", row, r)
		}
	}
	for _, y := range []struct{ from, to, want int }{{0, 3, 9}, {0, 1, 6}, {3, 3, 5}} {
		if n := dry(t, x, y.from, y.to); n != y.want {
			t.Errorf("Dry from %d to %d: %d", y.from, y.to, n)
		}
	}
	x = example(mark(1, 3, 9, 9))
	if l := bounds(t, x); !slices.Equal(l, ranges(2, 4, 5, 6, 9, 9, 5, 5)) {
		t.Errorf("Bounds with the mark 0: %v", l)
	}
	x = example(mark(1, 3, 9, 9), mark(3, 3, 4, 4))
	if n, e := tide.First(x); n != 1 || e != api.OK {
		t.Errorf("First: %d, %v", n, e)
	}
	if l := leave(t, x); !slices.Equal(l, []int{0}) {
		t.Errorf("Leave: %v", l)
	}
}

func equal(a, b [][]int) bool { return slices.EqualFunc(a, b, slices.Equal[[]int]) }

// The second example of the document: a row at the level 9 is dry with a sea of
// the height 9.
func TestDryAtTheHeight(t *testing.T) {
	x := tide.Table{Last: 1, Heights: ranges(9, 9, 10, 10), Step: 1, Levels: []int{9, 10}}
	if l := play(t, x, []int{9, 10}); !equal(l, [][]int{{1}, nil}) {
		t.Errorf("Play: %v", l)
	}
	if a, b, c := wet(t, x, 0, 0), wet(t, x, 0, 1), wet(t, x, 1, 1); a != no || b != yes || c != no {
		t.Errorf("Wet: %d, %d, %d", a, b, c)
	}
	if a, b := dry(t, x, 0, 0), dry(t, x, 0, 1); a != 9 || b != 10 {
		t.Errorf("Dry: %d, %d", a, b)
	}
	if a, b := reach(t, x, 0), reach(t, x, 1); a != to(1, 1) || b != to(2, 2) {
		t.Errorf("Reach: %v, %v", a, b)
	}
}

// P2.2 to P2.4 by hand, at the ends: one hour, and all hours with the greatest
// heights, steps and levels.
func TestEnds(t *testing.T) {
	one := tide.Table{Heights: ranges(0, 99), Levels: []int{0, 99, 50}}
	if l := bounds(t, one); !slices.Equal(l, ranges(0, 99)) {
		t.Errorf("Bounds: %v", l)
	}
	if a, b, c := wet(t, one, 0, 0), wet(t, one, 1, 0), wet(t, one, 2, 0); a != may || b != no || c != may {
		t.Errorf("Wet: %d, %d, %d", a, b, c)
	}
	if a, b := reach(t, one, 0), reach(t, one, 1); a != to(0, 1) || b != to(1, 1) {
		t.Errorf("Reach: %v, %v", a, b)
	}
	if n := dry(t, one, 0, 0); n != 99 {
		t.Errorf("Dry: %d", n)
	}
	all := tide.Table{Last: 9, Heights: make([]tide.Range, 10), Step: 99, Levels: make([]int, 6)}
	if n := dry(t, all, 0, 9); n != 0 {
		t.Errorf("Dry without a sea: %d", n)
	}
	if r := reach(t, all, 5); r != to(10, 10) {
		t.Errorf("Reach without a sea: %v", r)
	}
	all.Heights[9] = to(99, 99)
	if r := reach(t, all, 5); r != to(9, 9) {
		t.Errorf("Reach of the last hour: %v", r)
	}
}

// P2.2: the bounds are those of the truths: a height that no list of the table
// has, because of the step, is not in them, nor is one that the marks exclude.
func TestBoundsOfStepsAndMarks(t *testing.T) {
	tight := example()
	tight.Step = 3
	for _, y := range []struct {
		x    tide.Table
		want []tide.Range
	}{
		{tight, ranges(2, 4, 5, 6, 8, 8, 5, 5)},
		{example(mark(3, 3, 4, 4)), ranges(2, 4, 5, 6, 8, 8, 4, 4)},
		{example(mark(0, 1, 0, 5)), ranges(2, 4, 5, 5, 8, 9, 4, 5)},
		{example(mark(0, 0, 4, 99)), ranges(4, 4, 5, 6, 8, 9, 4, 5)},
		{example(mark(0, 3, 0, 99)), ranges(2, 4, 5, 6, 8, 9, 4, 5)},
		{tide.Table{Last: 2, Heights: ranges(0, 20, 10, 10, 0, 20), Step: 3}, ranges(7, 13, 10, 10, 7, 13)},
	} {
		if l := bounds(t, y.x); !slices.Equal(l, y.want) {
			t.Errorf("Bounds of %v: %v", y.x, l)
		}
	}
}

// P2.5 by hand: several sets of the same length, marks that are false alone,
// and marks that are false only together.
func TestFirstAndLeave(t *testing.T) {
	for _, y := range []struct {
		x     tide.Table
		first int
		e     api.Errno
		leave []int
	}{
		{example(), 0, api.ErrNone, nil},
		{example(mark(1, 3, 9, 9)), 0, api.ErrNone, nil},
		{example(mark(1, 3, 10, 99)), 0, api.OK, []int{0}},
		{example(mark(2, 2, 8, 8), mark(2, 2, 9, 9)), 1, api.OK, []int{0}},
		{example(mark(2, 2, 9, 9), mark(2, 2, 8, 8), mark(2, 2, 9, 9)), 1, api.OK, []int{1}},
		{example(mark(2, 2, 9, 9), mark(2, 2, 9, 9), mark(2, 2, 8, 8)), 2, api.OK, []int{2}},
		{example(mark(0, 0, 2, 2), mark(0, 0, 3, 3), mark(0, 0, 4, 4)), 1, api.OK, []int{0, 1}},
		{example(mark(0, 0, 2, 2), mark(1, 1, 5, 5), mark(0, 0, 3, 3), mark(1, 1, 6, 6)), 2, api.OK, []int{0, 1}},
		{example(mark(1, 1, 5, 5), mark(1, 1, 6, 6), mark(1, 1, 5, 5), mark(2, 2, 10, 10)), 1, api.OK, []int{1, 3}},
		{example(mark(2, 2, 0, 0), mark(2, 2, 1, 1), mark(2, 2, 2, 2), mark(2, 2, 3, 3), mark(2, 2, 4, 4)), 0, api.OK, []int{0, 1, 2, 3, 4}},
		{example(mark(0, 3, 8, 8), mark(2, 2, 8, 9), mark(3, 3, 5, 5)), 0, api.ErrNone, nil},
		{example(mark(2, 3, 9, 9), mark(1, 1, 5, 6), mark(3, 3, 4, 4)), 2, api.OK, []int{0}},
	} {
		if n, e := tide.First(y.x); n != y.first || e != y.e {
			t.Errorf("First of %v: %d, %v", y.x, n, e)
		}
		if l := leave(t, y.x); !slices.Equal(l, y.leave) {
			t.Errorf("Leave of %v: %v", y.x, l)
		}
	}
}

// P2.4 by hand: any level can be asked about.
func TestProveDry(t *testing.T) {
	for _, y := range []struct {
		x               tide.Table
		from, to, level int
		want            bool
	}{
		{example(), 0, 3, 9, true},
		{example(), 0, 3, 8, false},
		{example(), 0, 0, 4, true},
		{example(), 0, 0, 3, false},
		{example(mark(3, 3, 4, 4)), 0, 3, 8, true},
		{example(), 0, 3, 100, true},
		{example(), 0, 3, math.MaxInt, true},
		{example(), 0, 3, -1, false},
		{example(), 0, 3, math.MinInt, false},
		{example(), 2, 1, 99, false},
		{example(), -1, 1, 99, false},
		{example(), 0, 4, 99, false},
		{example(mark(1, 3, 9, 9), mark(3, 3, 4, 4)), 0, 3, 99, false},
		{tide.Table{}, 0, 0, 99, false},
		{tide.Table{Heights: ranges(0, 0)}, 0, 0, 0, true},
		{tide.Table{Heights: ranges(0, 0)}, 0, 0, -1, false},
	} {
		if tide.ProveDry(y.x, y.from, y.to, y.level) != y.want {
			t.Errorf("ProveDry of %v, %d, %d, %d is not %v", y.x, y.from, y.to, y.level, y.want)
		}
	}
}

// P2.1: Play and ProveTruth of all lists that are near the table.
func TestPlayAndProveTruth(t *testing.T) {
	met := map[api.Errno]int{}
	eachTable(t, func(t *testing.T, x tide.Table, rnd *rand.Rand) {
		if e := tide.CheckTable(x); e != api.OK {
			t.Errorf("CheckTable of %v: %v", x, e)
		}
		own, truths := listsOf(x), truthsOf(x)
		for _, l := range append(combinations(x.Heights), nearLists(rnd, own[0])...) {
			wet, e := tide.Play(x, l)
			met[e]++
			switch {
			case !has(own, l) && e != api.ErrRange || has(own, l) && e != api.OK:
				t.Errorf("Play of %v, %v: %v", x, l, e)
			case e == api.OK && !equal(wet, wetRows(x, l)):
				t.Errorf("Play of %v, %v: %v", x, l, wet)
			}
			if tide.ProveTruth(x, l) != has(truths, l) {
				t.Errorf("ProveTruth of %v, %v is not %v", x, l, has(truths, l))
			}
		}
	})
	atLeast(t, met[api.OK], 1000, "lists of a table")
	atLeast(t, met[api.ErrRange], 1000, "lists that are not of a table")
}

func has(lists [][]int, l []int) bool {
	return slices.ContainsFunc(lists, func(o []int) bool { return slices.Equal(o, l) })
}

func wetRows(x tide.Table, l []int) [][]int {
	var out [][]int
	for _, level := range x.Levels {
		out = append(out, wetOf(level, l))
	}
	return out
}

// nearLists returns lists of which one number, or the length, is another one.
func nearLists(rnd *rand.Rand, l []int) [][]int {
	out := [][]int{l[:len(l)-1], append(slices.Clone(l), 0), append(slices.Clone(l), l[0]), nil}
	for _, by := range []int{-3, -1, 1, 3, 256, 1 << 32} {
		other := slices.Clone(l)
		other[rnd.Intn(len(l))] += by
		out = append(out, other)
	}
	return out
}

// P2.2: Bounds, and Wet of all rows and hours.
func TestBoundsAndWet(t *testing.T) {
	met := map[int]int{}
	eachTrueTable(t, func(t *testing.T, x tide.Table, rnd *rand.Rand) {
		truths := truthsOf(x)
		if l := bounds(t, x); !slices.Equal(l, boundsOf(truths)) {
			t.Errorf("Bounds of %v: %v", x, l)
		}
		eachRowAndHour(x, func(row, hour int) {
			v := wet(t, x, row, hour)
			met[v]++
			if v != verdictOf(truths, x.Levels[row], hour) {
				t.Errorf("Wet of %v, %d, %d: %d", x, row, hour, v)
			}
		})
	})
	for _, v := range []int{yes, no, may} {
		atLeast(t, met[v], 100, "verdicts of one kind")
	}
}

// P2.3: Reach of all rows.
func TestReach(t *testing.T) {
	wide, never := 0, 0
	eachTrueTable(t, func(t *testing.T, x tide.Table, rnd *rand.Rand) {
		truths := truthsOf(x)
		for row, level := range x.Levels {
			r := reach(t, x, row)
			if r != reachOf(truths, level) {
				t.Errorf("Reach of %v, %d: %v", x, row, r)
			}
			if r.Lo < r.Hi {
				wide++
			}
			if r.Lo > x.Last {
				never++
			}
		}
	})
	atLeast(t, wide, 100, "rows with several first wet hours")
	atLeast(t, never, 20, "rows that are never wet")
}

// P2.4: Dry and ProveDry from each hour to each other one.
func TestDryAndItsProof(t *testing.T) {
	eachTrueTable(t, func(t *testing.T, x tide.Table, rnd *rand.Rand) {
		truths := truthsOf(x)
		eachSpan(x, func(from, to int) {
			n := dry(t, x, from, to)
			if n != dryOf(truths, from, to) {
				t.Errorf("Dry of %v, %d, %d: %d", x, from, to, n)
			}
			for _, level := range []int{n - 1, n, n + 1} {
				if tide.ProveDry(x, from, to, level) != surelyDry(truths, from, to, level) {
					t.Errorf("ProveDry of %v, %d, %d, %d", x, from, to, level)
				}
			}
		})
	})
}

// P2.5: First and Leave.
func TestFirstAndLeaveOfManyTables(t *testing.T) {
	met := map[int]int{}
	eachTable(t, func(t *testing.T, x tide.Table, rnd *rand.Rand) {
		want, wantError := firstOf(x), api.OK
		if want < 0 {
			want, wantError = 0, api.ErrNone
		}
		if n, e := tide.First(x); n != want || e != wantError {
			t.Errorf("First of %v: %d, %v", x, n, e)
		}
		l := leave(t, x)
		met[len(l)]++
		if !slices.Equal(l, leaveOf(x)) {
			t.Errorf("Leave of %v: %v, not %v", x, l, leaveOf(x))
		}
	})
	for many := range 3 {
		atLeast(t, met[many], 20, "smallest sets of one length")
	}
}

// The most lists that a table can have.
func TestMostLists(t *testing.T) {
	x := tide.Table{Last: 9, Heights: ranges(3, 7, 3, 7, 3, 7, 3, 6, 3, 6, 5, 5, 5, 5, 5, 5, 5, 5, 5, 5), Step: 99, Levels: []int{5}, Marks: []tide.Mark{mark(0, 9, 5, 6), mark(3, 9, 5, 5), mark(0, 4, 3, 6), mark(9, 9, 5, 5), mark(0, 9, 7, 7)}}
	if n := len(listsOf(x)); n != api.MaxTideTruths {
		t.Fatalf("%d lists", n)
	}
	if l := leave(t, x); !slices.Equal(l, leaveOf(x)) || len(l) != 1 {
		t.Errorf("Leave: %v", l)
	}
	x.Marks = x.Marks[:4]
	truths := truthsOf(x)
	if l := bounds(t, x); !slices.Equal(l, boundsOf(truths)) {
		t.Errorf("Bounds: %v", l)
	}
	if r := reach(t, x, 0); r != reachOf(truths, 5) {
		t.Errorf("Reach: %v", r)
	}
}
