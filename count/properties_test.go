package count_test

import (
	"math/rand"
	"slices"
	"testing"

	"foreshore/api"
	"foreshore/count"
)

// inside reports whether the first range is in the second one.
func inside(a, b count.Range) bool { return b.Lo <= a.Lo && a.Hi <= b.Hi }

// P1.6, P2 and P3: what is returned holds in each truth that is proved, and
// both ends are reached.
func TestInEachTruth(t *testing.T) {
	eachTrueRow(t, 6, func(t *testing.T, r count.Row, rnd *rand.Rand) {
		var own [][]int
		for _, l := range lists(len(r.Places)) {
			if count.ProveTruth(r, l) {
				own = append(own, l)
			}
		}
		verdicts, counts := places(t, r), right(t, r)
		for _, l := range own {
			for i, v := range verdicts {
				if v == yes && l[i] == 0 || v == no && l[i] == 1 {
					t.Errorf("Places of %v: %v, but %v", r, verdicts, l)
				}
			}
			errors, _ := count.Play(r, l)
			for i, v := range counts {
				if v == yes && errors[i] != 0 || v == no && errors[i] == 0 {
					t.Errorf("Right of %v: %v, but %v", r, counts, l)
				}
			}
		}
		eachPart(len(r.Places), func(from, to int) {
			n := chairs(t, r, from, to)
			var met []int
			for _, l := range own {
				met = append(met, sum(l[from:to+1]))
			}
			if slices.Min(met) != n.Lo || slices.Max(met) != n.Hi {
				t.Errorf("Chairs of %v, %d, %d: %v, but %v", r, from, to, n, met)
			}
		})
	})
}

// P1.7: one more count.
func TestOneMoreCount(t *testing.T) {
	kept := 0
	eachTrueRow(t, 6, func(t *testing.T, r count.Row, rnd *rand.Rand) {
		more := with(r, someCount(rnd, truthsOf(r)[0]))
		a, _ := count.Least(r)
		b, e := count.Least(more)
		if e == api.OK && b < a || e != api.OK && e != api.ErrShort {
			t.Errorf("Least of %v: %d, of %v: %d, %v", r, a, more, b, e)
		}
		if len(truthsOf(more)) == 0 {
			return
		}
		kept++
		eachPart(len(r.Places), func(from, to int) {
			if !inside(chairs(t, more, from, to), chairs(t, r, from, to)) {
				t.Errorf("Chairs of %v, %d, %d are wider", more, from, to)
			}
			if looks(t, more, from, to) > looks(t, r, from, to) {
				t.Errorf("Looks of %v, %d, %d are more", more, from, to)
			}
		})
		stays(t, places(t, r), places(t, more))
		stays(t, right(t, r), right(t, more)[:len(r.Counts)])
		_, before := look(t, r)
		_, after := look(t, more)
		if after > before {
			t.Errorf("Look of %v: %d left, of %v: %d", r, before, more, after)
		}
	})
	if kept < 60 {
		t.Errorf("only %d rows have a truth with one more count", kept)
	}
}

func stays(t *testing.T, before, after []int) {
	t.Helper()
	for i, v := range before {
		if v != may && after[i] != v {
			t.Errorf("verdicts %v became %v", before, after)
		}
	}
}

// P1.8: from the other end.
func TestFromTheOtherEnd(t *testing.T) {
	eachTrueRow(t, 6, func(t *testing.T, r count.Row, rnd *rand.Rand) {
		turned := copied(r)
		slices.Reverse(turned.Places)
		for i := range turned.Counts {
			turned.Counts[i].Back = !turned.Counts[i].Back
		}
		end := len(r.Places) - 1
		eachPart(len(r.Places), func(from, to int) {
			if chairs(t, r, from, to) != chairs(t, turned, end-to, end-from) {
				t.Errorf("Chairs of %v, %d, %d are others from the other end", r, from, to)
			}
			if looks(t, r, from, to) != looks(t, turned, end-to, end-from) {
				t.Errorf("Looks of %v, %d, %d are others from the other end", r, from, to)
			}
		})
	})
}

// P1.9: parts that follow each other.
func TestPartsThatFollow(t *testing.T) {
	eachTrueRow(t, 6, func(t *testing.T, r count.Row, rnd *rand.Rand) {
		eachPart(len(r.Places), func(from, to int) {
			for middle := from; middle < to; middle++ {
				a, b := chairs(t, r, from, middle), chairs(t, r, middle+1, to)
				if !inside(chairs(t, r, from, to), count.Range{Lo: a.Lo + b.Lo, Hi: a.Hi + b.Hi}) {
					t.Errorf("Chairs of %v, %d, %d, %d", r, from, middle, to)
				}
			}
		})
	})
}

// P1.10: a greater Wrong, a greater Off, and a place that is not known any
// more.
func TestWider(t *testing.T) {
	eachTrueRow(t, 6, func(t *testing.T, r count.Row, rnd *rand.Rand) {
		wrong, off, forgotten := copied(r), copied(r), seen(r, rnd.Intn(len(r.Places)), 2)
		wrong.Wrong = min(r.Wrong+1, api.MaxCountCounts)
		off.Off = min(r.Off+1, api.MaxCountPlaces)
		eachPart(len(r.Places), func(from, to int) {
			n := chairs(t, r, from, to)
			for _, wider := range []count.Row{wrong, off, forgotten} {
				if !inside(n, chairs(t, wider, from, to)) {
					t.Errorf("Chairs of %v, %d, %d are narrower than of %v", wider, from, to, r)
				}
			}
		})
	})
}

// P1.10: the row has a truth if and only if the least number of wrong counts
// is at most Wrong.
func TestTruthAndLeast(t *testing.T) {
	met := map[bool]bool{}
	eachRow(t, 6, func(t *testing.T, r count.Row, rnd *rand.Rand) {
		least, e := count.Least(r)
		for r.Wrong = 0; r.Wrong <= api.MaxCountCounts; r.Wrong++ {
			_, f := count.Places(r)
			want := e == api.OK && least <= r.Wrong
			met[want] = true
			if want != (f == api.OK) {
				t.Errorf("%v: Least %d, %v, but Places %v", r, least, e, f)
			}
		}
	})
	if len(met) != 2 {
		t.Errorf("only %v was met", met)
	}
}

// P1.11: a count of all places that is not wrong.
func TestCountOfAllPlaces(t *testing.T) {
	met := map[bool]bool{}
	eachRow(t, 6, func(t *testing.T, r count.Row, rnd *rand.Rand) {
		r = with(r, count.Count{Back: rnd.Intn(2) == 0, Many: len(r.Places), Number: rnd.Intn(len(r.Places) + 1)})
		r.Wrong = 0
		n, e := count.Chairs(r, 0, len(r.Places)-1)
		met[e == api.OK] = true
		number := r.Counts[len(r.Counts)-1].Number
		if e == api.OK && n != (count.Range{Lo: number, Hi: number}) {
			t.Errorf("Chairs of %v: %v", r, n)
		}
	})
	if len(met) != 2 {
		t.Errorf("only %v was met", met)
	}
}

// P1.11: two counts, one from each end, that are about each place just once.
func TestTwoCountsFromTheEnds(t *testing.T) {
	met := 0
	eachTrueRow(t, 6, func(t *testing.T, r count.Row, rnd *rand.Rand) {
		places, truth := len(r.Places), truthsOf(r)[0]
		for many := 0; many <= places; many++ {
			a, b := sum(truth[:many]), sum(truth[many:])
			two := with(with(r, first(many, a)), last(places-many, b))
			verdicts := right(t, two)
			if v := verdicts[len(r.Counts):]; v[0] != yes || v[1] != yes {
				continue
			}
			met++
			if n := chairs(t, two, 0, places-1); n != (count.Range{Lo: a + b, Hi: a + b}) {
				t.Errorf("Chairs of %v: %v", two, n)
			}
		}
	})
	if met < 60 {
		t.Errorf("only %d pairs of counts are right always", met)
	}
}

// left returns how many truths a row has.
func left(r count.Row) int {
	n := 0
	for _, l := range lists(len(r.Places)) {
		if count.ProveTruth(r, l) {
			n++
		}
	}
	return n
}

// P1.12: what is left after the first look.
func TestLooked(t *testing.T) {
	eachTrueRow(t, 6, func(t *testing.T, r count.Row, rnd *rand.Rand) {
		place, most := look(t, r)
		n := 0
		for chair := range 2 {
			if p := r.Places[place]; p == 2 || p == chair {
				n = max(n, left(seen(r, place, chair)))
			}
		}
		if n != most {
			t.Errorf("Look of %v: %d, %d, but %d are left", r, place, most, n)
		}
	})
}

// P1.12: a part that is known needs no looks, and no look is worth more than
// one.
func TestLooksAfterALook(t *testing.T) {
	eachTrueRow(t, 5, func(t *testing.T, r count.Row, rnd *rand.Rand) {
		eachPart(len(r.Places), func(from, to int) {
			n, before := chairs(t, r, from, to), looks(t, r, from, to)
			if (n.Lo == n.Hi) != (before == 0) {
				t.Errorf("Looks of %v, %d, %d: %d, but %v chairs", r, from, to, before, n)
			}
			for place := range r.Places {
				after := 0
				for chair := range 2 {
					if p := r.Places[place]; p != 2 && p != chair {
						continue
					}
					if m, e := count.Looks(seen(r, place, chair), from, to); e == api.OK {
						after = max(after, m)
					}
				}
				if after < before-1 {
					t.Errorf("Looks of %v, %d, %d: %d, but %d after a look at %d", r, from, to, before, after, place)
				}
			}
		})
	})
}

// P1.13: a count of no places.
func TestCountOfNothing(t *testing.T) {
	eachTrueRow(t, 6, func(t *testing.T, r count.Row, rnd *rand.Rand) {
		for _, c := range []count.Count{first(0, 0), last(0, 0)} {
			more := with(r, c)
			if l := right(t, more); !slices.Equal(l, append(right(t, r), yes)) {
				t.Errorf("Right of %v: %v", more, l)
			}
			same(t, r, more)
		}
	})
}

// same wants equal results for two rows that have the same places, but for
// those about single counts.
func same(t *testing.T, a, b count.Row) {
	t.Helper()
	p, left := look(t, a)
	if q, n := look(t, b); p != q || left != n {
		t.Errorf("Look of %v: %d, %d, of %v: %d, %d", a, p, left, b, q, n)
	}
	n, e := count.Least(a)
	if m, f := count.Least(b); n != m || e != f {
		t.Errorf("Least of %v: %d, %v, of %v: %d, %v", a, n, e, b, m, f)
	}
	if !slices.Equal(places(t, a), places(t, b)) {
		t.Errorf("Places of %v and %v", a, b)
	}
	eachPart(len(a.Places), func(from, to int) {
		if chairs(t, a, from, to) != chairs(t, b, from, to) || looks(t, a, from, to) != looks(t, b, from, to) {
			t.Errorf("Chairs and Looks of %v and %v, %d, %d", a, b, from, to)
		}
	})
}

// P7: counts in any order.
func TestAnyOrder(t *testing.T) {
	eachTrueRow(t, 6, func(t *testing.T, r count.Row, rnd *rand.Rand) {
		mixed, order := copied(r), rnd.Perm(len(r.Counts))
		for i, j := range order {
			mixed.Counts[i] = r.Counts[j]
		}
		same(t, r, mixed)
		before, after := right(t, r), right(t, mixed)
		for i, j := range order {
			if after[i] != before[j] {
				t.Errorf("Right of %v: %v, of %v: %v", r, before, mixed, after)
			}
		}
	})
}

// R3: nil and a list without elements.
func TestNilIsEmpty(t *testing.T) {
	a, b := row([]int{2, 1}, 0, 0), row([]int{2, 1}, 0, 0)
	a.Counts, b.Counts = nil, []count.Count{}
	same(t, a, b)
	for _, r := range []count.Row{a, b} {
		if l := right(t, r); len(l) != 0 {
			t.Errorf("Right of %v: %v", r, l)
		}
		if l, e := count.Play(r, []int{0, 1}); len(l) != 0 || e != api.OK {
			t.Errorf("Play of %v: %v, %v", r, l, e)
		}
	}
	if e, f := count.CheckRow(row(nil, 0, 0)), count.CheckRow(row([]int{}, 0, 0)); e != f {
		t.Errorf("CheckRow: %v, %v", e, f)
	}
}

// R4: arguments are not written to, also not behind their ends, and results
// are in memory of their own.
func TestMemory(t *testing.T) {
	memory := []int{2, 2, 1, 2, 2, 7, 7}
	counts := []count.Count{first(3, 2), last(3, 3), {Many: 7}}
	truth := []int{0, 1, 1, 1, 1, 7}
	r := count.Row{Places: memory[:5], Counts: counts[:2], Wrong: 1, Off: 1}
	count.CheckRow(r)
	expect(t, calls(), r, truth[:5], 1, 3, api.OK)
	count.ProveTruth(r, truth[:5])
	count.ProveLeast(r, truth[:5], 0)
	if !slices.Equal(memory, []int{2, 2, 1, 2, 2, 7, 7}) || !slices.Equal(truth, []int{0, 1, 1, 1, 1, 7}) {
		t.Errorf("places %v, truth %v", memory, truth)
	}
	if !slices.Equal(counts, []count.Count{first(3, 2), last(3, 3), {Many: 7}}) {
		t.Errorf("counts %v", counts)
	}
	a, _ := count.Play(r, truth[:5])
	for _, l := range [][]int{a, places(t, r), right(t, r)} {
		for i := range l {
			l[i] = 9
		}
	}
	if !slices.Equal(memory[:5], []int{2, 2, 1, 2, 2}) || !slices.Equal(truth[:5], []int{0, 1, 1, 1, 1}) {
		t.Error("a result shares memory with an argument")
	}
	b, _ := count.Play(r, truth[:5])
	if !slices.Equal(b, []int{0, 0}) || !slices.Equal(right(t, r), []int{may, may}) || !slices.Equal(places(t, r), []int{may, may, yes, may, may}) {
		t.Error("a result is kept from call to call")
	}
}
