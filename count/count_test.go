package count_test

import (
	"math"
	"math/rand"
	"slices"
	"testing"

	"foreshore/api"
	"foreshore/count"
)

const yes, no, may = count.Always, count.Never, count.Perhaps

func TestExamples(t *testing.T) {
	r := example(0)
	if l, e := count.Play(r, []int{1, 1, 1, 1, 0}); !slices.Equal(l, []int{1, 1}) || e != api.OK {
		t.Errorf("Play: %v, %v", l, e)
	}
	for _, x := range []struct {
		from, to int
		want     count.Range
	}{{0, 1, count.Range{Lo: 1, Hi: 1}}, {0, 4, count.Range{Lo: 4, Hi: 4}}, {1, 1, count.Range{Lo: 0, Hi: 1}}} {
		if n := chairs(t, r, x.from, x.to); n != x.want {
			t.Errorf("Chairs of %d to %d: %v", x.from, x.to, n)
		}
	}
	if l := places(t, r); !slices.Equal(l, []int{may, may, yes, yes, yes}) {
		t.Errorf("Places: %v", l)
	}
	if l := right(t, r); !slices.Equal(l, []int{yes, yes}) {
		t.Errorf("Right: %v", l)
	}
	if place, left := look(t, r); place != 0 || left != 1 {
		t.Errorf("Look: %d, %d", place, left)
	}
	if n := looks(t, r, 0, 0); n != 1 {
		t.Errorf("Looks of 0 to 0: %d", n)
	}
	if n := looks(t, r, 0, 1); n != 0 {
		t.Errorf("Looks of 0 to 1: %d", n)
	}
	more := example(1, first(5, 3))
	if n := chairs(t, more, 0, 4); n != (count.Range{Lo: 3, Hi: 4}) {
		t.Errorf("Chairs with the count 2: %v", n)
	}
	if l := right(t, more); !slices.Equal(l, []int{may, may, may}) {
		t.Errorf("Right with the count 2: %v", l)
	}
}

// The first example of the document: of five places, in which the first three
// have 2 chairs and the last three 3, the whole row has 4.
func TestTwoAndThreeAreFour(t *testing.T) {
	r := row([]int{2, 2, 2, 2, 2}, 0, 0, first(3, 2), last(3, 3))
	if n := chairs(t, r, 0, 4); n != (count.Range{Lo: 4, Hi: 4}) {
		t.Errorf("Chairs: %v", n)
	}
}

// P1.4 by hand.
func TestLeast(t *testing.T) {
	for _, x := range []struct {
		r    count.Row
		want int
		e    api.Errno
	}{
		{example(0), 0, api.OK},
		{example(0, first(5, 0)), 0, api.ErrShort},
		{example(0, first(5, 3)), 1, api.OK},
		{example(0, first(5, 1)), 3, api.OK},
		{example(6, first(5, 1)), 3, api.OK},
		{row([]int{2}, 0, 0), 0, api.OK},
		{row([]int{2}, 6, 1, first(1, 2), first(1, 0)), 2, api.OK},
		{row([]int{1}, 0, 8, first(1, 9), first(1, 9), first(1, 9), last(1, 9), last(1, 9), last(1, 9)), 6, api.OK},
		{row([]int{1}, 0, 9, first(0, 9)), 1, api.OK},
	} {
		if n, e := count.Least(x.r); n != x.want || e != x.e {
			t.Errorf("Least of %v: %d, %v", x.r, n, e)
		}
	}
}

// P1.4 by hand: the number of ProveLeast counts, whatever Wrong is.
func TestProveLeast(t *testing.T) {
	all, one := []int{1, 1, 1, 1, 1}, []int{0, 1, 1, 1, 1}
	for _, x := range []struct {
		r     count.Row
		truth []int
		many  int
		want  bool
	}{
		{example(0), all, 1, true},
		{example(0), all, 0, false},
		{example(6), all, 0, false},
		{example(0), all, math.MaxInt, true},
		{example(0), all, 7, true},
		{example(0), one, 0, true},
		{example(0), one, -1, false},
		{example(0), one, math.MinInt, false},
		{example(6), []int{0, 0, 1, 0, 0}, 6, false},
		{row([]int{2}, 0, 0), []int{0}, 0, true},
		{row([]int{2}, 0, 0), []int{0}, -1, false},
	} {
		if count.ProveLeast(x.r, x.truth, x.many) != x.want {
			t.Errorf("ProveLeast of %v, %v, %d is not %v", x.r, x.truth, x.many, x.want)
		}
	}
}

// P1.5 by hand: several places that are as good, places that are known, and
// nothing that is not known.
func TestLook(t *testing.T) {
	for _, x := range []struct {
		r           count.Row
		place, left int
	}{
		{row([]int{2, 2, 2}, 0, 0), 0, 4},
		{row([]int{0, 2, 2}, 0, 0), 1, 2},
		{row([]int{1, 0, 2}, 0, 0), 2, 1},
		{row([]int{1, 0}, 0, 0), 0, 1},
		{row([]int{2}, 0, 0, first(1, 1)), 0, 1},
		{row([]int{2, 2, 2, 2}, 0, 0, first(3, 1)), 3, 3},
		{row([]int{2, 2, 2, 2}, 0, 0, last(3, 2)), 0, 3},
		{row([]int{2, 2, 2}, 0, 0, first(3, 1)), 0, 2},
		{row([]int{2, 2, 2}, 0, 0, first(3, 2)), 0, 2},
		{row([]int{2, 2, 2, 2, 2, 2, 2, 2, 2}, 6, 9), 0, 256},
		{row([]int{0, 0, 0, 0, 0, 0, 0, 0, 2}, 6, 9), 8, 1},
	} {
		if place, left := look(t, x.r); place != x.place || left != x.left {
			t.Errorf("Look of %v: %d, %d", x.r, place, left)
		}
	}
}

// P1.5 by hand: a look beside the part can be worth more than one in it.
func TestLooks(t *testing.T) {
	for _, x := range []struct {
		r              count.Row
		from, to, want int
	}{
		{row([]int{2, 2, 2}, 0, 0), 0, 2, 3},
		{row([]int{2, 2, 2}, 0, 0), 1, 2, 2},
		{row([]int{2, 1, 2}, 0, 0), 0, 2, 2},
		{row([]int{2, 1, 2}, 0, 0), 1, 1, 0},
		{row([]int{2, 2, 2}, 0, 0, first(2, 1)), 0, 2, 1},
		{row([]int{2, 2, 2}, 0, 0, first(2, 1)), 1, 2, 2},
		{row([]int{2, 2, 2, 2}, 0, 0, first(3, 1)), 0, 1, 1},
		{row([]int{2, 2, 2, 2}, 0, 0, first(4, 2)), 0, 2, 1},
		{row([]int{2, 2, 2, 2, 2, 2, 2, 2, 2}, 0, 0), 0, 8, 9},
		{row([]int{2, 2, 2, 2, 2, 2, 2, 2, 2}, 0, 0), 4, 4, 1},
		{row([]int{2, 2, 2, 2, 2, 2, 2, 2, 2}, 0, 0, last(9, 9)), 0, 8, 0},
		{row([]int{2, 2, 2, 2, 2, 2, 2, 2, 2}, 0, 0, first(9, 8)), 1, 8, 1},
	} {
		if n := looks(t, x.r, x.from, x.to); n != x.want {
			t.Errorf("Looks of %v, %d, %d: %d, not %d", x.r, x.from, x.to, n, x.want)
		}
	}
}

// P1.1: Play and ProveTruth of all lists of chairs.
func TestPlayAndProveTruth(t *testing.T) {
	eachRow(t, 7, func(t *testing.T, r count.Row, rnd *rand.Rand) {
		own := truthsOf(r)
		for _, l := range lists(len(r.Places)) {
			errors, e := count.Play(r, l)
			if agrees(r, l) != (e == api.OK) || e != api.OK && e != api.ErrRange {
				t.Errorf("Play of %v, %v: %v", r, l, e)
			} else if e == api.OK && !slices.Equal(errors, errorsOf(r, l)) {
				t.Errorf("Play of %v, %v: %v", r, l, errors)
			}
			isOwn := slices.ContainsFunc(own, func(o []int) bool { return slices.Equal(o, l) })
			if count.ProveTruth(r, l) != isOwn {
				t.Errorf("ProveTruth of %v, %v is not %v", r, l, isOwn)
			}
		}
	})
}

// P1.2: Chairs of all parts.
func TestChairsOfAllParts(t *testing.T) {
	eachTrueRow(t, 9, func(t *testing.T, r count.Row, rnd *rand.Rand) {
		own := truthsOf(r)
		eachPart(len(r.Places), func(from, to int) {
			if n := chairs(t, r, from, to); n != chairsOf(own, from, to) {
				t.Errorf("Chairs of %v, %d, %d: %v", r, from, to, n)
			}
		})
	})
}

// P1.3: Places and Right.
func TestPlacesAndRight(t *testing.T) {
	met := map[int]bool{}
	eachTrueRow(t, 9, func(t *testing.T, r count.Row, rnd *rand.Rand) {
		own := truthsOf(r)
		all := places(t, r)
		if len(all) != len(r.Places) {
			t.Fatalf("Places of %v: %v", r, all)
		}
		for i, v := range all {
			if v != verdict(own, func(l []int) bool { return l[i] == 1 }) {
				t.Errorf("Places of %v: %v", r, all)
			}
		}
		counts := right(t, r)
		if len(counts) != len(r.Counts) {
			t.Fatalf("Right of %v: %v", r, counts)
		}
		for i, v := range counts {
			met[v] = true
			if v != verdict(own, func(l []int) bool { return errorsOf(r, l)[i] == 0 }) {
				t.Errorf("Right of %v: %v", r, counts)
			}
		}
	})
	if len(met) != 3 {
		t.Errorf("verdicts of counts that were met: %v", met)
	}
}

// P1.4: Least and ProveLeast, for all lists of chairs.
func TestLeastAndItsProof(t *testing.T) {
	short := 0
	eachRow(t, 7, func(t *testing.T, r count.Row, rnd *rand.Rand) {
		all := explaining(r)
		want, wantError := len(r.Counts)+1, api.OK
		for _, l := range all {
			want = min(want, wrongOf(r, l))
		}
		if len(all) == 0 {
			short++
			want, wantError = 0, api.ErrShort
		}
		if n, e := count.Least(r); n != want || e != wantError {
			t.Errorf("Least of %v: %d, %v", r, n, e)
		}
		for _, l := range lists(len(r.Places)) {
			explains := slices.ContainsFunc(all, func(o []int) bool { return slices.Equal(o, l) })
			for many := -1; many <= len(r.Counts); many++ {
				if count.ProveLeast(r, l, many) != (explains && wrongOf(r, l) <= many) {
					t.Errorf("ProveLeast of %v, %v, %d", r, l, many)
				}
			}
		}
	})
	if short == 0 {
		t.Error("no row without a truth that explains the counts")
	}
}

// P1.5: Look, and Looks of all parts.
func TestLookAndLooks(t *testing.T) {
	eachTrueRow(t, 5, func(t *testing.T, r count.Row, rnd *rand.Rand) {
		own := truthsOf(r)
		place, left := look(t, r)
		if p, n := lookOf(own); place != p || left != n {
			t.Errorf("Look of %v: %d, %d, not %d, %d", r, place, left, p, n)
		}
		eachPart(len(r.Places), func(from, to int) {
			if n := looks(t, r, from, to); n != looksOf(own, from, to) {
				t.Errorf("Looks of %v, %d, %d: %d", r, from, to, n)
			}
		})
	})
}

// P1.5: Look of longer rows, and Looks of one part of each.
func TestLookAndLooksOfLongRows(t *testing.T) {
	eachTrueRow(t, 9, func(t *testing.T, r count.Row, rnd *rand.Rand) {
		own := truthsOf(r)
		place, left := look(t, r)
		if p, n := lookOf(own); place != p || left != n {
			t.Errorf("Look of %v: %d, %d, not %d, %d", r, place, left, p, n)
		}
		if len(own) > 40 {
			return
		}
		from := rnd.Intn(len(r.Places))
		to := from + rnd.Intn(len(r.Places)-from)
		if n := looks(t, r, from, to); n != looksOf(own, from, to) {
			t.Errorf("Looks of %v, %d, %d: %d", r, from, to, n)
		}
	})
}
