package shelter_test

import (
	"math"
	"math/rand"
	"slices"
	"testing"

	"foreshore/api"
	"foreshore/shelter"
)

const yes, no, may = shelter.Always, shelter.Never, shelter.Perhaps

func TestExamples(t *testing.T) {
	s, p, q := example(), list(0, 1, 2, -1), list(2, 0, 1, 3)
	if e := shelter.CheckShelter(s); e != api.OK {
		t.Errorf("CheckShelter: %v", e)
	}
	if l := play(t, s, q, truth(3, 0, 0, 1, 0)); !slices.Equal(l, []bool{true, true, true, false}) {
		t.Errorf("Play: %v", l)
	}
	if l, m := saved(t, s, p), saved(t, s, q); !slices.Equal(l, list(yes, yes, yes, no)) || !slices.Equal(m, list(may, yes, yes, may)) {
		t.Errorf("Saved: %v, %v", l, m)
	}
	if m, n := sure(t, s, p), sure(t, s, q); m != 24 || n != 14 {
		t.Errorf("Sure: %d, %d", m, n)
	}
	if l, n := best(t, s); n != 24 || !shelter.ProveSure(s, l, 24) || !shelter.ProveSure(s, p, 24) || shelter.ProveSure(s, q, 15) {
		t.Errorf("Best: %v, %d", l, n)
	}
	if l, n := show(t, s); n != 24 || !shelter.ProveBound(s, l, 24) || !shelter.ProveBound(s, steps(5, 2, 10, 0), 24) || shelter.ProveBound(s, steps(5, 2, 10, 0), 23) {
		t.Errorf("Show: %v, %d", l, n)
	}
	if n, found := hands(t, s); n != 2 || !found || len(lost(t, s)) != 0 {
		t.Errorf("Hands, Lost: %d, %v, %v", n, found, lost(t, s))
	}
	for i, want := range list(5, 3, 6, 0) {
		if n := worth(t, s, i); n != want {
			t.Errorf("Worth of %d: %d", i, n)
		}
	}
	if l, n := left(t, s, p, 2); n != 18 || !same(l, shed(1, 0, 0, stack(0, 0, 1), stack(0, 0, 0), stack(6, 1, 2), stack(5, 0, 0))) {
		t.Errorf("Left: %v, %d", l, n)
	}
	if l := lost(t, early()); !slices.Equal(l, list(0, 1, 2, 3)) {
		t.Errorf("Lost: %v", l)
	}
	expect(t, needing, early(), asked{}, api.ErrShort)
}

// The eleventh example of the document: two hands close four stacks in two hours.
func TestTwoHands(t *testing.T) {
	for _, x := range []struct{ hands, hours, many int }{{2, 2, 4}, {2, 1, 2}, {1, 2, 2}, {3, 1, 3}, {3, 2, 4}, {2, 0, 0}, {0, 2, 0}, {1, 4, 4}, {1, 3, 3}} {
		s := shed(x.hands, x.hours, x.hours, stack(1, 0, 0), stack(1, 0, 0), stack(1, 0, 0), stack(1, 0, 0))
		p, n := best(t, s)
		if n != x.many || !isPlan(s, p) || sureOf(s, p, truthsOf(s)) != x.many {
			t.Errorf("Best of %v: %v, %d", s, p, n)
		}
	}
	s := shed(0, 2, 2, stack(1, 0, 0), stack(1, 0, 0), stack(1, 0, 0), stack(1, 0, 0))
	if n, found := hands(t, s); n != 2 || !found {
		t.Errorf("Hands of %v: %d, %v", s, n, found)
	}
}

// P11.1 by hand: a stack is saved if it is closed in an hour before that of the water.
func TestPlayByHand(t *testing.T) {
	s := shed(2, 0, 9, stack(1, 0, 9), stack(0, 2, 8))
	for _, x := range []struct {
		plan []int
		t    shelter.Truth
		want []bool
	}{
		{list(0, 0), truth(0, 0, 2), []bool{false, true}},
		{list(0, 1), truth(1, 0, 2), []bool{true, true}},
		{list(0, 2), truth(0, 1, 2), []bool{true, false}},
		{list(1, 3), truth(1, 0, 2), []bool{false, false}},
		{list(1, 2), truth(1, 1, 2), []bool{true, true}},
		{list(-1, -1), truth(9, 9, 8), []bool{false, false}},
		{list(17, 17), truth(9, 9, 8), []bool{true, false}},
		{list(17, 16), truth(9, 8, 8), []bool{false, true}},
		{list(17, 16), truth(8, 9, 8), []bool{false, false}},
		{list(-1, 9), truth(9, 0, 2), []bool{false, true}},
		{list(9, 9), truth(9, 0, 2), []bool{false, true}},
		{list(8, 11), truth(9, 0, 2), []bool{true, false}},
	} {
		if l := play(t, s, x.plan, x.t); !slices.Equal(l, x.want) {
			t.Errorf("Play of %v, %v: %v", x.plan, x.t, l)
		}
	}
}

// P11.2 by hand: at the ends of the hours of the water.
func TestSavedByHand(t *testing.T) {
	s := shed(3, 2, 4, stack(7, 1, 3), stack(5, 0, 0), stack(3, 9, 9))
	for _, x := range []struct {
		plan []int
		want []int
		sure int
	}{
		{list(-1, -1, -1), list(no, no, no), 0},
		{list(0, 0, 0), list(yes, yes, yes), 15},
		{list(2, 1, 10), list(yes, yes, yes), 15},
		{list(3, 2, 11), list(may, may, may), 0},
		{list(6, 3, 12), list(may, may, may), 0},
		{list(7, 4, 13), list(no, no, no), 0},
		{list(17, 17, 17), list(no, no, no), 0},
		{list(3, 1, 13), list(may, yes, no), 5},
		{list(2, 4, 11), list(yes, no, may), 7},
		{list(-1, 3, 0), list(no, may, yes), 3},
	} {
		if l, n := saved(t, s, x.plan), sure(t, s, x.plan); !slices.Equal(l, x.want) || n != x.sure {
			t.Errorf("Saved, Sure of %v: %v, %d", x.plan, l, n)
		}
		for _, n := range list(math.MinInt, -1, 0, x.sure-1, x.sure, x.sure+1, 15, 16, math.MaxInt) {
			if shelter.ProveSure(s, x.plan, n) != (n <= x.sure) {
				t.Errorf("ProveSure of %v, %d", x.plan, n)
			}
		}
	}
}

// P11.1: Play, of plans and truths, and of lists that are near them.
func TestPlay(t *testing.T) {
	met := map[bool]int{}
	eachShelter(t, func(t *testing.T, s shelter.Shelter, rnd *rand.Rand) {
		truths := truthsOf(s)
		for _, p := range plansOf(rnd, s) {
			for _, x := range truths {
				if l := play(t, s, p, x); !slices.Equal(l, playOf(p, x)) {
					t.Errorf("Play of %v, %v, %v: %v", s, p, x, l)
				}
			}
			for _, l := range nearLists(rnd, p) {
				is := isPlan(s, l)
				met[is]++
				if !is {
					expectRange(t, s, l)
				} else {
					saved(t, s, l)
				}
			}
			x := truths[rnd.Intn(len(truths))]
			for _, leaks := range nearLists(rnd, x.Leaks) {
				other := truth(x.Rain, leaks...)
				want := api.ErrRange
				if isTruth(s, other) {
					want = api.OK
				}
				expect(t, playing, s, asked{plan: p, truth: other}, want)
			}
		}
	})
	atLeast(t, met[true], 3000, "plans")
	atLeast(t, met[false], 5000, "lists that are no plans")
}

// nearLists are lists that differ from the given one at one place, or in their length.
func nearLists(rnd *rand.Rand, l []int) [][]int {
	out := [][]int{append(slices.Clone(l), 0), append(slices.Clone(l), -1)}
	if len(l) == 0 {
		return out
	}
	out = append(out, nil, l[1:])
	for _, n := range []int{-2, -1, rnd.Intn(4), rnd.Intn(18), 17, 18, l[rnd.Intn(len(l))]} {
		other := slices.Clone(l)
		other[rnd.Intn(len(l))] = n
		out = append(out, other)
	}
	other := slices.Clone(l)
	other[rnd.Intn(len(l))] += 1 << 32
	return append(out, other)
}

// P11.2: Saved, Sure and ProveSure.
func TestSavedAndSure(t *testing.T) {
	met, numbers := map[int]int{}, map[bool]int{}
	eachShelter(t, func(t *testing.T, s shelter.Shelter, rnd *rand.Rand) {
		truths := truthsOf(s)
		for _, p := range plansOf(rnd, s) {
			want := savedOf(p, truths)
			if l := saved(t, s, p); !slices.Equal(l, want) {
				t.Errorf("Saved of %v, %v: %v, not %v", s, p, l, want)
			}
			for _, v := range want {
				met[v]++
			}
			many := sureOf(s, p, truths)
			numbers[many > 0]++
			if n := sure(t, s, p); n != many {
				t.Errorf("Sure of %v, %v: %d, not %d", s, p, n, many)
			}
			for _, n := range list(-1, 0, many-1, many, many+1, allChairs(s)) {
				if shelter.ProveSure(s, p, n) != (n <= many) {
					t.Errorf("ProveSure of %v, %v, %d", s, p, n)
				}
			}
		}
	})
	for _, v := range list(yes, no, may) {
		atLeast(t, met[v], 1500, "stacks with a verdict")
	}
	atLeast(t, numbers[true], 1000, "plans that are sure of something")
}

// P11.3 by hand: which stacks are closed depends on their chairs and their spans.
func TestBestByHand(t *testing.T) {
	for _, x := range []struct {
		s    shelter.Shelter
		many int
	}{
		{shed(3, 9, 9), 0},
		{shed(0, 9, 9, stack(9, 9, 9)), 0},
		{shed(1, 0, 9, stack(9, 0, 9)), 0},
		{shed(1, 1, 1, stack(9, 0, 0)), 9},
		{shed(1, 0, 0, stack(9, 1, 1)), 9},
		{shed(1, 9, 9, stack(9, 9, 9)), 9},
		// One of two, and both if one can wait.
		{shed(1, 1, 1, stack(3, 0, 0), stack(5, 0, 0)), 5},
		{shed(1, 1, 1, stack(3, 0, 0), stack(5, 1, 1)), 8},
		{shed(1, 1, 1, stack(3, 1, 1), stack(5, 0, 0)), 8},
		{shed(2, 1, 1, stack(3, 0, 0), stack(5, 0, 0)), 8},
		// The second and the third one cannot wait for each other.
		{shed(1, 1, 1, stack(5, 0, 0), stack(7, 0, 0), stack(6, 1, 1)), 13},
		// Two that can wait are worth more than one that cannot, or less.
		{shed(1, 1, 1, stack(9, 0, 0), stack(5, 1, 1), stack(5, 1, 1)), 14},
		{shed(1, 1, 1, stack(4, 0, 0), stack(5, 1, 1), stack(5, 1, 1)), 10},
		// The stacks with the most chairs have the longest spans.
		{shed(1, 1, 1, stack(1, 0, 0), stack(2, 1, 1), stack(3, 2, 2), stack(4, 3, 3)), 10},
		{shed(1, 1, 1, stack(4, 0, 0), stack(3, 1, 1), stack(2, 2, 2), stack(1, 3, 3)), 10},
		{shed(1, 1, 1, stack(4, 3, 3), stack(3, 3, 3), stack(2, 3, 3), stack(1, 3, 3), stack(2, 0, 0)), 11},
		{shed(2, 1, 1, stack(9, 0, 0), stack(8, 0, 0), stack(7, 0, 0), stack(6, 1, 1), stack(5, 1, 1), stack(4, 1, 1)), 28},
		// What the latest hours are does not count, nor do stacks without chairs.
		{shed(1, 1, 9, stack(3, 0, 9), stack(5, 0, 9)), 5},
		{shed(1, 1, 1, stack(0, 0, 0), stack(5, 0, 0)), 5},
		{shed(3, 9, 9, slices.Repeat([]shelter.Stack{stack(99, 9, 9)}, 8)...), 792},
		{shed(1, 5, 5, slices.Repeat([]shelter.Stack{stack(99, 2, 2)}, 8)...), 693},
	} {
		if n := bestOf(x.s); n != x.many {
			t.Errorf("the oracle is wrong: %v: %d", x.s, n)
		}
		if p, n := best(t, x.s); n != x.many || !isPlan(x.s, p) || !shelter.ProveSure(x.s, p, n) || shelter.ProveSure(x.s, p, n+1) {
			t.Errorf("Best of %v: %v, %d", x.s, p, n)
		}
		if l, n := show(t, x.s); n != x.many || !isProof(l) || boundOf(x.s, l) != n || !shelter.ProveBound(x.s, l, n) {
			t.Errorf("Show of %v: %v, %d", x.s, l, n)
		}
	}
}

// P11.3: Best.
func TestBest(t *testing.T) {
	met := map[bool]int{}
	eachShelter(t, func(t *testing.T, s shelter.Shelter, rnd *rand.Rand) {
		p, n := best(t, s)
		many := bestOf(s)
		met[many > 0 && many < allChairs(s)]++
		if n != many || !isPlan(s, p) || sureOf(s, p, truthsOf(s)) != many {
			t.Errorf("Best of %v: %v, %d, not %d", s, p, n, many)
		}
	})
	atLeast(t, met[true], 150, "shelters of which some chairs can be saved, but not all")
}

// P11.4 by hand: steps with too many chairs, or too few, and hours at the ends.
func TestBoundByHand(t *testing.T) {
	// The spans are 2, 2, 3 and 2, and the chairs 10, 8, 6 and 5.
	for _, x := range []struct {
		proof []shelter.Step
		bound int
	}{
		{steps(5, 2, 10, 0), 24}, {steps(5, 2, 6, 0), 24}, {steps(5, 2, 99, 0), 24}, {steps(5, 2, 9, 0), 24}, {steps(5, 2, 9, 0, 10, 1), 25},
		{steps(99, 0), 29}, {steps(1, 0), 29}, {steps(1, 0, 2, 0, 99, 0), 29},
		{steps(99, 1), 39}, {steps(99, 2), 26}, {steps(1, 2), 26}, {steps(99, 3), 30}, {steps(99, 18), 180},
		{steps(4, 2, 10, 0), 25}, {steps(6, 2, 10, 0), 24}, {steps(7, 2, 10, 0), 24}, {steps(8, 2, 10, 0), 24}, {steps(1, 2, 10, 0), 28}, {steps(5, 0, 10, 2), 31},
		{steps(5, 3, 10, 0), 24}, {steps(5, 2, 6, 3, 10, 0), 24}, {steps(1, 18, 10, 0), 43}, {steps(10, 0, 11, 18), 29},
	} {
		s := example()
		if n := boundOf(s, x.proof); n != x.bound {
			t.Errorf("the oracle is wrong: %v: %d", x.proof, n)
		}
		for _, n := range list(math.MinInt, -1, 0, x.bound-1, x.bound, x.bound+1, math.MaxInt) {
			if shelter.ProveBound(s, x.proof, n) != (x.bound <= n) {
				t.Errorf("ProveBound of %v, %d", x.proof, n)
			}
		}
	}
	for _, s := range []shelter.Shelter{shed(3, 9, 9), shed(3, 9, 9, stack(0, 9, 9)), {}} {
		if l, n := show(t, s); n != 0 || !isProof(l) || !shelter.ProveBound(s, l, 0) || shelter.ProveBound(s, l, -1) || !shelter.ProveBound(s, steps(99, 18), 0) {
			t.Errorf("Show of %v: %v, %d", s, l, n)
		}
	}
}

// P11.4: Show, and ProveBound of many proofs.
func TestShow(t *testing.T) {
	met := map[int]int{}
	eachShelter(t, func(t *testing.T, s shelter.Shelter, rnd *rand.Rand) {
		l, n := show(t, s)
		many := bestOf(s)
		if n != many || !isProof(l) || boundOf(s, l) != n {
			t.Errorf("Show of %v: %v, %d, not %d", s, l, n, many)
		}
		met[min(len(l), 3)]++
		for range 20 {
			l := someProof(rnd, s)
			bound := boundOf(s, l)
			for _, n := range list(-1, 0, bound-1, bound, bound+1, allChairs(s)) {
				if shelter.ProveBound(s, l, n) != (bound <= n) {
					t.Errorf("ProveBound of %v, %v, %d: the bound is %d", s, l, n, bound)
				}
			}
			for _, bad := range nearProofs(rnd, l) {
				if is := isProof(bad); shelter.ProveBound(s, bad, math.MaxInt) != is {
					t.Errorf("ProveBound of %v, %v is not %v", s, bad, is)
				}
			}
		}
	})
	for many, wanted := range list(0, 100, 100, 25) {
		atLeast(t, met[many], wanted, "proofs of so many steps")
	}
}

// nearProofs are lists of steps that differ from the given one at one place.
func nearProofs(rnd *rand.Rand, l []shelter.Step) [][]shelter.Step {
	out := [][]shelter.Step{l[1:], append(slices.Clone(l), l[len(l)-1]), append(slices.Clone(l), l[0])}
	for _, n := range list(-1, 0, 1, 18, 19, 99, 100, 1<<32+1, 1+rnd.Intn(99)) {
		more, later := slices.Clone(l), slices.Clone(l)
		at := rnd.Intn(len(l))
		more[at].Chairs, later[at].Before = n, n
		out = append(out, more, later)
	}
	return out
}

// P11.5: Hands, Lost and Worth.
func TestHandsLostAndWorth(t *testing.T) {
	needed, losses, worths := map[int]int{}, map[bool]int{}, map[bool]int{}
	eachShelter(t, func(t *testing.T, s shelter.Shelter, rnd *rand.Rand) {
		n, found := hands(t, s)
		want := handsOf(s)
		needed[want]++
		if found != (want <= api.MaxShelterHands) || found && n != want {
			t.Errorf("Hands of %v: %d, %v, not %d", s, n, found, want)
		}
		l := lostOf(s)
		losses[len(l) > 0 && len(l) < len(s.Stacks)]++
		if got := lost(t, s); !slices.Equal(got, l) {
			t.Errorf("Lost of %v: %v, not %v", s, got, l)
		}
		for i, x := range s.Stacks {
			want := worthOf(s, i)
			worths[want > 0 && want < x.Chairs]++
			if n := worth(t, s, i); n != want {
				t.Errorf("Worth of %v, %d: %d, not %d", s, i, n, want)
			}
		}
	})
	for n := range api.MaxShelterHands + 2 {
		atLeast(t, needed[n], 30, "shelters that need so many hands")
	}
	atLeast(t, losses[true], 50, "shelters of which some stacks are lost")
	atLeast(t, worths[true], 100, "stacks that are worth less than their chairs, but not nothing")
}

// P11.5 by hand: what is lost, and what a stack is worth if another one takes its hour.
func TestLostAndWorthByHand(t *testing.T) {
	for _, x := range []struct {
		s     shelter.Shelter
		lost  []int
		worth []int
	}{
		{shed(1, 1, 1, stack(5, 0, 0)), nil, list(5)},
		{shed(1, 0, 9, stack(5, 0, 9)), list(0), list(0)},
		{shed(1, 0, 0, stack(5, 1, 1)), nil, list(5)},
		{shed(0, 9, 9, stack(5, 9, 9), stack(0, 9, 9)), list(0), list(0, 0)},
		{shed(3, 0, 0, stack(5, 0, 0), stack(0, 0, 0), stack(4, 1, 1), stack(3, 0, 9)), list(0, 3), list(0, 0, 4, 0)},
		// Stacks for which there are not enough hours are not lost.
		{shed(1, 1, 1, stack(5, 0, 0), stack(5, 0, 0), stack(5, 0, 0)), nil, list(0, 0, 0)},
		{shed(1, 1, 1, stack(5, 0, 0), stack(3, 0, 0)), nil, list(2, 0)},
		{shed(1, 1, 1, stack(5, 0, 0), stack(3, 0, 0), stack(1, 1, 1)), nil, list(2, 0, 1)},
		{shed(1, 1, 1, stack(5, 1, 1), stack(4, 1, 1), stack(3, 0, 0)), nil, list(2, 1, 0)},
		{shed(2, 1, 1, stack(5, 0, 0), stack(4, 0, 0), stack(1, 0, 0)), nil, list(4, 3, 0)},
		{shed(1, 1, 1), nil, nil},
	} {
		if l := lost(t, x.s); !slices.Equal(l, x.lost) {
			t.Errorf("Lost of %v: %v", x.s, l)
		}
		for i, want := range x.worth {
			if n := worth(t, x.s, i); n != want {
				t.Errorf("Worth of %v, %d: %d", x.s, i, n)
			}
		}
	}
}

// P11.6: Left, by each plan in each hour of the rain.
func TestLeft(t *testing.T) {
	met := map[bool]int{}
	eachShelter(t, func(t *testing.T, s shelter.Shelter, rnd *rand.Rand) {
		for _, p := range plansOf(rnd, s) {
			for hour := -1; hour <= api.MaxShelterHour+1; hour++ {
				if hour < s.Rain.Lo || hour > s.Rain.Hi {
					expect(t, leaving, s, asked{plan: p, hour: hour}, api.ErrRange)
					continue
				}
				want, many := leftOf(s, p, hour)
				met[many > 0 && many < allChairs(s)]++
				if l, n := left(t, s, p, hour); n != many || !same(l, want) {
					t.Errorf("Left of %v, %v, %d: %v, %d, not %v, %d", s, p, hour, l, n, want, many)
				}
			}
		}
	})
	atLeast(t, met[true], 1000, "plans that closed some of the chairs")
}

// P11.6 by hand: a stack that is closed in the hour of the rain is left.
func TestLeftByHand(t *testing.T) {
	s := shed(2, 0, 9, stack(5, 0, 9), stack(4, 3, 3))
	for _, x := range []struct {
		plan   []int
		hour   int
		chairs []int
		saved  int
	}{
		{list(-1, -1), 0, list(5, 4), 0}, {list(-1, -1), 9, list(5, 4), 0},
		{list(0, 0), 0, list(5, 4), 0}, {list(0, 0), 1, list(0, 0), 9},
		{list(8, 9), 9, list(0, 4), 5}, {list(9, 8), 9, list(5, 0), 4}, {list(17, 3), 9, list(5, 0), 4}, {list(-1, 3), 3, list(5, 4), 0},
	} {
		l, n := left(t, s, x.plan, x.hour)
		if n != x.saved || !same(l, shed(2, 0, 0, stack(x.chairs[0], 0, 9), stack(x.chairs[1], 3, 3))) {
			t.Errorf("Left of %v, %d: %v, %d", x.plan, x.hour, l, n)
		}
	}
}

// P5: a shelter with as many truths as there can be, and as many stacks.
func TestWidest(t *testing.T) {
	s := shed(1, 0, 9)
	for n := range api.MaxShelterStacks {
		s.Stacks = append(s.Stacks, stack(99-n, 0, 9))
	}
	plan := list(0, 1, 2, 3, 4, 16, 17, -1)
	if l, n := saved(t, s, plan), sure(t, s, plan); !slices.Equal(l, list(may, may, may, may, may, may, may, no)) || n != 0 || number(t, s) != 0 || len(lost(t, s)) != 8 {
		t.Errorf("Saved, Sure: %v, %d", l, n)
	}
	for n := range s.Stacks {
		s.Stacks[n].Leak.Lo = 1
	}
	if l, n := saved(t, s, plan), sure(t, s, plan); !slices.Equal(l, list(yes, may, may, may, may, may, may, no)) || n != 99 || number(t, s) != 99 || worth(t, s, 0) != 1 {
		t.Errorf("Saved, Sure: %v, %d", l, n)
	}
	s.Rain.Lo = 6
	if p, n := best(t, s); n != 99+98+97+96+95+94+93 || !isPlan(s, p) || !shelter.ProveSure(s, p, n) {
		t.Errorf("Best: %v, %d", p, n)
	}
	if l, n := show(t, s); n != bestOf(s) || boundOf(s, l) != n {
		t.Errorf("Show: %v, %d", l, n)
	}
}
