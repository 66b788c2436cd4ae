package shelter_test

import (
	"math/rand"
	"slices"
	"testing"

	"foreshore/api"
	"foreshore/shelter"
)

// P11.7, P2 and P3: what is returned holds in each truth, and is reached by some.
func TestInEachTruth(t *testing.T) {
	met := map[int]int{}
	eachShelter(t, func(t *testing.T, s shelter.Shelter, rnd *rand.Rand) {
		truths := truthsOf(s)
		for i, p := range plansOf(rnd, s) {
			verdicts, many := saved(t, s, p), sure(t, s, p)
			if i == 4 && many < number(t, s) {
				t.Errorf("Best of %v: %v, but it is sure of %d", s, p, many)
			}
			least, in := allChairs(s), make([]int, len(p))
			for _, x := range truths {
				is := play(t, s, p, x)
				least = min(least, chairsOf(s, is))
				for n, yes := range is {
					if yes {
						in[n]++
					}
				}
			}
			if many != least {
				t.Errorf("Sure of %v, %v: %d, but %d", s, p, many, least)
			}
			for n, v := range verdicts {
				met[v]++
				if (v == yes) != (in[n] == len(truths)) || (v == no) != (in[n] == 0) || (v == may) != (0 < in[n] && in[n] < len(truths)) {
					t.Errorf("Saved of %v, %v: %d, but the stack %d in %d of %d truths", s, p, v, n, in[n], len(truths))
				}
			}
		}
	})
	for _, v := range list(yes, no, may) {
		atLeast(t, met[v], 1500, "stacks with a verdict")
	}
}

// small cuts a shelter so that all its plans and proofs can be tried.
func small(rnd *rand.Rand, s shelter.Shelter) shelter.Shelter {
	s = copied(s)
	s.Stacks = s.Stacks[:min(len(s.Stacks), 3)]
	s.Rain = someRange(rnd, 1, 2)
	for i := range s.Stacks {
		s.Stacks[i].Chairs = min(s.Stacks[i].Chairs, rnd.Intn(4))
		s.Stacks[i].Leak = someRange(rnd, 1, 2)
	}
	return s
}

// P11.8 and P5: no plan is sure of more, and no proof has a smaller bound, of all plans
// and proofs of small shelters.
func TestNoBetterOfAll(t *testing.T) {
	plans, proofs := 0, 0
	eachShelter(t, func(t *testing.T, s shelter.Shelter, rnd *rand.Rand) {
		if rnd.Intn(4) > 0 {
			return
		}
		s = small(rnd, s)
		many, most := number(t, s), 0
		for _, p := range allPlans(s, 5) {
			plans++
			most = max(most, sure(t, s, p))
			if shelter.ProveSure(s, p, many+1) {
				t.Errorf("Best of %v: %d, but %v", s, many, p)
			}
		}
		if most != many {
			t.Errorf("Best of %v: %d, not %d", s, many, most)
		}
		shown := false
		for _, l := range allProofs(3, 5) {
			proofs++
			shown = shown || shelter.ProveBound(s, l, many)
			if shelter.ProveBound(s, l, many-1) {
				t.Errorf("Show of %v: %d, but %v", s, many, l)
			}
		}
		if !shown {
			t.Errorf("Show of %v: %d, but there is no proof", s, many)
		}
	})
	atLeast(t, plans, 5000, "plans")
	atLeast(t, proofs, 20000, "proofs")
}

// P11.8 and P5: no plan is sure of more, and no proof has a smaller bound, of some plans
// and proofs of other shelters.
func TestNoBetter(t *testing.T) {
	equal := 0
	eachShelter(t, func(t *testing.T, s shelter.Shelter, rnd *rand.Rand) {
		many := number(t, s)
		p, _ := best(t, s)
		l, bound := show(t, s)
		if bound != many || !shelter.ProveSure(s, p, many) || !shelter.ProveBound(s, l, many) || shelter.ProveSure(s, p, many+1) || shelter.ProveBound(s, l, many-1) {
			t.Errorf("Best, Show of %v: %v, %d, %v, %d", s, p, many, l, bound)
		}
		for range 40 {
			p, l := somePlan(rnd, s), someProof(rnd, s)
			if shelter.ProveSure(s, p, many+1) {
				t.Errorf("Best of %v: %d, but %v", s, many, p)
			}
			if shelter.ProveBound(s, l, many-1) {
				t.Errorf("Show of %v: %d, but %v", s, many, l)
			}
			if many > 0 && shelter.ProveSure(s, p, many) {
				equal++
			}
		}
	})
	atLeast(t, equal, 500, "plans that are as good")
}

// someStack returns a stack like those of the shelter.
func someStack(rnd *rand.Rand, s shelter.Shelter) shelter.Stack {
	x := shelter.Stack{Chairs: rnd.Intn(20), Leak: someRange(rnd, 4, 3)}
	if len(s.Stacks) > 0 {
		x.Leak = s.Stacks[rnd.Intn(len(s.Stacks))].Leak
	}
	return x
}

// P11.9: one hand more.
func TestOneHandMore(t *testing.T) {
	more := 0
	eachShelter(t, func(t *testing.T, s shelter.Shelter, rnd *rand.Rand) {
		for n := range api.MaxShelterHands {
			a, b := number(t, withHands(s, n)), number(t, withHands(s, n+1))
			if b < a {
				t.Errorf("Best of %v with %d hands: %d, with one more: %d", s, n, a, b)
			}
			if b > a {
				more++
			}
		}
		if s.Hands == api.MaxShelterHands {
			return
		}
		// What a plan saves does not depend on the hands.
		for _, p := range plansOf(rnd, s) {
			x := withHands(s, s.Hands+1)
			if m, n := sure(t, s, p), sure(t, x, p); m != n || !slices.Equal(saved(t, s, p), saved(t, x, p)) {
				t.Errorf("Sure of %v, %v: %d, with one hand more: %d", s, p, m, n)
			}
		}
	})
	atLeast(t, more, 300, "shelters of which more is saved")
}

// P11.9: one stack more.
func TestOneStackMore(t *testing.T) {
	met := map[string]int{}
	eachShelter(t, func(t *testing.T, s shelter.Shelter, rnd *rand.Rand) {
		if len(s.Stacks) == api.MaxShelterStacks {
			return
		}
		x, c := copied(s), someStack(rnd, s)
		x.Stacks = slices.Insert(x.Stacks, rnd.Intn(len(s.Stacks)+1), c)
		by := number(t, x) - number(t, s)
		if by < 0 || by > c.Chairs {
			t.Errorf("Best of %v with %v: %d more", s, c, by)
		}
		switch by {
		case 0:
			met["nothing"]++
		case c.Chairs:
			met["all of it"]++
		default:
			met["a part of it"]++
		}
	})
	for _, what := range []string{"nothing", "all of it", "a part of it"} {
		atLeast(t, met[what], 25, "shelters of which "+what+" is saved")
	}
}

// raised returns a range of which each end is the same, or greater.
func raised(rnd *rand.Rand, r shelter.Range) shelter.Range {
	low, high := min(r.Lo+rnd.Intn(3), api.MaxShelterHour), min(r.Hi+rnd.Intn(3), api.MaxShelterHour)
	return to(min(low, high), high)
}

// widened returns a range of which each end is the same, or farther off.
func widened(rnd *rand.Rand, r shelter.Range) shelter.Range {
	return to(max(r.Lo-rnd.Intn(3), 0), min(r.Hi+rnd.Intn(3), api.MaxShelterHour))
}

// changedRanges returns the shelter after a change of some of its ranges.
func changedRanges(rnd *rand.Rand, s shelter.Shelter, f func(rnd *rand.Rand, r shelter.Range) shelter.Range) shelter.Shelter {
	s = copied(s)
	if rnd.Intn(2) == 0 {
		s.Rain = f(rnd, s.Rain)
	}
	for i := range s.Stacks {
		if rnd.Intn(3) == 0 {
			s.Stacks[i].Leak = f(rnd, s.Stacks[i].Leak)
		}
	}
	return s
}

// P11.10: it rains later, or leaks later.
func TestLater(t *testing.T) {
	more := 0
	eachShelter(t, func(t *testing.T, s shelter.Shelter, rnd *rand.Rand) {
		x := changedRanges(rnd, s, raised)
		for _, p := range plansOf(rnd, s) {
			m, n := sure(t, s, p), sure(t, x, p)
			if n < m {
				t.Errorf("Sure of %v, %v: %d, of %v: %d", s, p, m, x, n)
			}
			if n > m {
				more++
			}
			before, after := saved(t, s, p), saved(t, x, p)
			for i, v := range before {
				if v == yes && after[i] != yes || v != no && after[i] == no {
					t.Errorf("Saved of %v, %v: %v, of %v: %v", s, p, before, x, after)
				}
			}
		}
		if m, n := number(t, s), number(t, x); n < m {
			t.Errorf("Best of %v: %d, of %v: %d", s, m, x, n)
		}
	})
	atLeast(t, more, 300, "plans that are sure of more if it is later")
}

// P11.10: a range is wider.
func TestWider(t *testing.T) {
	less, other := 0, 0
	eachShelter(t, func(t *testing.T, s shelter.Shelter, rnd *rand.Rand) {
		x := changedRanges(rnd, s, widened)
		for _, p := range plansOf(rnd, s) {
			m, n := sure(t, s, p), sure(t, x, p)
			if n > m {
				t.Errorf("Sure of %v, %v: %d, of %v: %d", s, p, m, x, n)
			}
			if n < m {
				less++
			}
			before, after := saved(t, s, p), saved(t, x, p)
			for i, v := range after {
				if v != may && before[i] != v {
					t.Errorf("Saved of %v, %v: %v, of %v: %v", s, p, before, x, after)
				}
				if v != before[i] {
					other++
				}
			}
		}
		if m, n := number(t, s), number(t, x); n > m {
			t.Errorf("Best of %v: %d, of %v: %d", s, m, x, n)
		}
	})
	atLeast(t, less, 200, "plans that are sure of less with wider ranges")
	atLeast(t, other, 500, "stacks that are saved perhaps with wider ranges")
}

// P11.11: the worth of stacks.
func TestWorth(t *testing.T) {
	open, some := 0, 0
	eachShelter(t, func(t *testing.T, s shelter.Shelter, rnd *rand.Rand) {
		p, many := best(t, s)
		verdicts, sum := saved(t, s, p), 0
		for i, x := range s.Stacks {
			n := worth(t, s, i)
			sum += n
			if n < 0 || n > x.Chairs {
				t.Errorf("Worth of %v, %d: %d", s, i, n)
			}
			if verdicts[i] != yes {
				open++
				if n != 0 {
					t.Errorf("Worth of %v, %d: %d, but the best plan does not save it always", s, i, n)
				}
			}
			if n > 0 {
				some++
			}
			if n != many-number(t, emptied(s, i)) {
				t.Errorf("Worth of %v, %d: %d", s, i, n)
			}
		}
		if sum > many {
			t.Errorf("Worth of all stacks of %v: %d, more than %d", s, sum, many)
		}
	})
	atLeast(t, open, 500, "stacks that the best plan does not save always")
	atLeast(t, some, 500, "stacks that are worth something")
}

// P11.12: with as many hands as are needed, and with one less.
func TestHandsThatAreNeeded(t *testing.T) {
	met, short := 0, 0
	eachShelter(t, func(t *testing.T, s shelter.Shelter, rnd *rand.Rand) {
		n, found := hands(t, s)
		for other := range api.MaxShelterHands + 1 {
			if m, same := hands(t, withHands(s, other)); m != n || same != found {
				t.Errorf("Hands of %v: %d, %v, with %d hands: %d, %v", s, n, found, other, m, same)
			}
		}
		if !found {
			short++
			n = api.MaxShelterHands + 1
		} else if x := withHands(s, n); len(lost(t, x)) > 0 || number(t, x) != allChairs(s) {
			t.Errorf("Hands of %v: %d, but %v are lost, and %d are saved", s, n, lost(t, x), number(t, x))
		}
		if n > 0 {
			met++
			if m := number(t, withHands(s, n-1)); m >= allChairs(s) {
				t.Errorf("Hands of %v: %d, but with one less %d are saved", s, n, m)
			}
		}
	})
	atLeast(t, met, 300, "shelters that need hands")
	atLeast(t, short, 100, "shelters of which not all can be saved")
}

// P11.5: a stack is not lost if some plan saves it always, of all plans of small shelters.
func TestLostByAllPlans(t *testing.T) {
	met := map[bool]int{}
	eachShelter(t, func(t *testing.T, s shelter.Shelter, rnd *rand.Rand) {
		if rnd.Intn(4) > 0 {
			return
		}
		s = small(rnd, s)
		l := lost(t, s)
		ever := make([]bool, len(s.Stacks))
		for _, p := range allPlans(s, 4) {
			for i, v := range saved(t, s, p) {
				ever[i] = ever[i] || v == yes
			}
		}
		for i, x := range s.Stacks {
			want := x.Chairs > 0 && !ever[i]
			met[want]++
			if slices.Contains(l, i) != want {
				t.Errorf("Lost of %v: %v", s, l)
			}
		}
	})
	atLeast(t, met[true], 30, "stacks that are lost")
	atLeast(t, met[false], 60, "stacks that are not")
}

// P11.13 and P4: when it begins to rain, nothing that was sure is lost, and all chairs
// are either closed or left.
func TestWhenItRains(t *testing.T) {
	met := 0
	eachShelter(t, func(t *testing.T, s shelter.Shelter, rnd *rand.Rand) {
		for _, p := range plansOf(rnd, s) {
			many := sure(t, s, p)
			for hour := s.Rain.Lo; hour <= s.Rain.Hi; hour++ {
				x, closed := left(t, s, p, hour)
				if e := shelter.CheckShelter(x); e != api.OK {
					t.Errorf("Left of %v, %v, %d: %v, %v", s, p, hour, x, e)
				}
				rest := number(t, x)
				if closed+rest < many {
					t.Errorf("Left of %v, %v, %d: %v, %d, of which %d are saved, but %d are sure", s, p, hour, x, closed, rest, many)
				}
				if closed+allChairs(x) != allChairs(s) {
					t.Errorf("Left of %v, %v, %d: %v, %d", s, p, hour, x, closed)
				}
				if closed < many {
					met++
				}
			}
		}
	})
	atLeast(t, met, 300, "plans of which something sure is left")
}

// P11.14 and P7: two stacks exchange their numbers.
func TestExchangedStacks(t *testing.T) {
	eachShelter(t, func(t *testing.T, s shelter.Shelter, rnd *rand.Rand) {
		if len(s.Stacks) < 2 {
			return
		}
		x := copied(s)
		i, j := rnd.Intn(len(s.Stacks)), rnd.Intn(len(s.Stacks))
		x.Stacks[i], x.Stacks[j] = x.Stacks[j], x.Stacks[i]
		if m, n := number(t, s), number(t, x); m != n {
			t.Errorf("Best of %v: %d, of %v: %d", s, m, x, n)
		}
		m, found := hands(t, s)
		if n, other := hands(t, x); m != n || found != other {
			t.Errorf("Hands of %v: %d, of %v: %d", s, m, x, n)
		}
		lostHere, lostThere := lost(t, s), lost(t, x)
		for n := range s.Stacks {
			at := n
			switch n {
			case i:
				at = j
			case j:
				at = i
			}
			if worth(t, s, n) != worth(t, x, at) || slices.Contains(lostHere, n) != slices.Contains(lostThere, at) {
				t.Errorf("Worth, Lost of the stack %d of %v, and %d of %v", n, s, at, x)
			}
		}
	})
}

// P11.15: twice the hands, and each stack twice.
func TestInPairs(t *testing.T) {
	met := 0
	eachShelter(t, func(t *testing.T, s shelter.Shelter, rnd *rand.Rand) {
		s = copied(s)
		s.Stacks, s.Hands = s.Stacks[:min(len(s.Stacks), api.MaxShelterStacks/2)], min(s.Hands, api.MaxShelterHands/2)
		x := withHands(s, 2*s.Hands)
		for _, c := range s.Stacks {
			x.Stacks = slices.Insert(x.Stacks, rnd.Intn(len(x.Stacks)+1), c)
		}
		m, n := number(t, s), number(t, x)
		if n != 2*m {
			t.Errorf("Best of %v: %d, of %v: %d", s, m, x, n)
		}
		if m > 0 && m < allChairs(s) {
			met++
		}
	})
	atLeast(t, met, 50, "shelters of which some chairs can be saved, but not all")
}

// R3: nil and a list without elements.
func TestNilIsEmpty(t *testing.T) {
	for _, stacks := range [][]shelter.Stack{nil, {}} {
		s := shelter.Shelter{Stacks: stacks, Hands: 2, Rain: to(1, 3)}
		for _, none := range [][]int{nil, {}} {
			if l, m := play(t, s, none, truth(2, none...)), saved(t, s, none); len(l) != 0 || len(m) != 0 {
				t.Errorf("Play, Saved: %v, %v", l, m)
			}
			if n := sure(t, s, none); n != 0 || !shelter.ProveSure(s, none, 0) || shelter.ProveSure(s, none, 1) {
				t.Errorf("Sure: %d", n)
			}
			if l, n := left(t, s, none, 2); n != 0 || !same(l, shed(2, 0, 0)) {
				t.Errorf("Left: %v, %d", l, n)
			}
		}
		if l, n := best(t, s); len(l) != 0 || n != 0 {
			t.Errorf("Best: %v, %d", l, n)
		}
		if l, n := show(t, s); !isProof(l) || n != 0 {
			t.Errorf("Show: %v, %d", l, n)
		}
		if n, found := hands(t, s); n != 0 || !found || len(lost(t, s)) != 0 {
			t.Errorf("Hands, Lost: %d, %v, %v", n, found, lost(t, s))
		}
		for _, none := range [][]shelter.Step{nil, {}} {
			if shelter.ProveBound(s, none, 99) {
				t.Error("proved: no steps")
			}
		}
	}
}

// R4: arguments are not written to, also not behind their ends.
func TestArgumentsAreKept(t *testing.T) {
	whole := example()
	whole.Stacks = append(whole.Stacks, stack(77, 7, 7), stack(78, 7, 8))
	plan, leaks, proof := list(0, 1, 2, -1, 77, 78), list(0, 0, 1, 0, 77), steps(5, 2, 10, 0, 77, 7)
	kept, keptPlan, keptLeaks, keptProof := copied(whole), slices.Clone(plan), slices.Clone(leaks), slices.Clone(proof)
	for many := range 5 {
		s := whole
		s.Stacks = s.Stacks[:many]
		a := asked{plan[:many], truth(3, leaks[:many]...), 0, 3}
		for _, c := range withPlan() {
			expect(t, c, s, a, api.OK)
		}
		callAll(s, a, proof[:2], 24)
		callAll(s, asked{plan[:many+1], truth(3, leaks[:1]...), 0, 3}, proof[:1], 24)
		for i := range s.Stacks {
			worth(t, s, i)
		}
	}
	if !same(whole, kept) || !slices.Equal(plan, keptPlan) || !slices.Equal(leaks, keptLeaks) || !slices.Equal(proof, keptProof) {
		t.Errorf("%v, %v, %v, %v became %v, %v, %v, %v", kept, keptPlan, keptLeaks, keptProof, whole, plan, leaks, proof)
	}
}

// R4: results are in memory of their own.
func TestResultsAreApart(t *testing.T) {
	s, plan, x := example(), list(0, 1, 2, -1), truth(3, 0, 0, 1, 0)
	for range 2 {
		played, verdicts, gone := play(t, s, plan, x), saved(t, s, plan), lost(t, early())
		chosen, many := best(t, s)
		proof, bound := show(t, s)
		rest, closed := left(t, s, plan, 2)
		all, none := left(t, s, list(-1, -1, -1, -1), 2)
		if !slices.Equal(played, []bool{true, true, true, false}) || !slices.Equal(verdicts, list(yes, yes, yes, no)) || !slices.Equal(gone, list(0, 1, 2, 3)) ||
			many != 24 || sureOf(s, chosen, truthsOf(s)) != 24 || bound != 24 || boundOf(s, proof) != 24 || closed != 18 || allChairs(rest) != 11 || none != 0 || allChairs(all) != 29 {
			t.Errorf("results: %v, %v, %v, %v, %v, %v, %v", played, verdicts, gone, chosen, proof, rest, all)
		}
		for i := range s.Stacks {
			played[i] = !played[i]
			verdicts[i], gone[i], chosen[i] = 77, 77, 77
			rest.Stacks[i], all.Stacks[i] = stack(77, 7, 7), stack(78, 7, 7)
		}
		for i := range proof {
			proof[i] = shelter.Step{Chairs: 77, Before: 7}
		}
	}
	if !same(s, example()) || !slices.Equal(plan, list(0, 1, 2, -1)) || !slices.Equal(x.Leaks, list(0, 0, 1, 0)) {
		t.Errorf("a result shares memory with an argument: %v, %v, %v", s, plan, x)
	}
}

// A call with equal arguments returns equal results.
func TestAgain(t *testing.T) {
	eachShelter(t, func(t *testing.T, s shelter.Shelter, rnd *rand.Rand) {
		p, m := best(t, s)
		q, n := best(t, copied(s))
		k, a := show(t, s)
		l, b := show(t, copied(s))
		if m != n || a != b || !slices.Equal(p, q) || !slices.Equal(k, l) {
			t.Errorf("Best, Show of %v: %v, %d, %v, %d and %v, %d, %v, %d", s, p, m, k, a, q, n, l, b)
		}
	})
}
