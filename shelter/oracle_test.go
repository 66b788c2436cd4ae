package shelter_test

import (
	"math/rand"
	"slices"
	"testing"

	"foreshore/api"
	"foreshore/shelter"
)

// The oracle: what the chapter defines, computed from all truths, all sets of stacks and
// all numbers of chairs by the words of the definitions alone, without anything of the
// package but its types.

// truthsOf returns all truths.
func truthsOf(s shelter.Shelter) []shelter.Truth {
	var out []shelter.Truth
	for rain := s.Rain.Lo; rain <= s.Rain.Hi; rain++ {
		lists := [][]int{nil}
		for _, x := range s.Stacks {
			var longer [][]int
			for _, l := range lists {
				for leak := x.Leak.Lo; leak <= x.Leak.Hi; leak++ {
					longer = append(longer, append(slices.Clone(l), leak))
				}
			}
			lists = longer
		}
		for _, leaks := range lists {
			out = append(out, shelter.Truth{Rain: rain, Leaks: leaks})
		}
	}
	return out
}

// isPlan reports whether the list is a plan.
func isPlan(s shelter.Shelter, list []int) bool {
	for hour := range api.MaxShelterLast + 1 {
		closed := 0
		for _, n := range list {
			if n == hour {
				closed++
			}
		}
		if closed > s.Hands {
			return false
		}
	}
	return len(list) == len(s.Stacks) && !slices.ContainsFunc(list, func(n int) bool { return n < -1 || n > api.MaxShelterLast })
}

// isTruth reports whether the truth has one number of each range.
func isTruth(s shelter.Shelter, t shelter.Truth) bool {
	if t.Rain < s.Rain.Lo || t.Rain > s.Rain.Hi || len(t.Leaks) != len(s.Stacks) {
		return false
	}
	for i, x := range s.Stacks {
		if t.Leaks[i] < x.Leak.Lo || t.Leaks[i] > x.Leak.Hi {
			return false
		}
	}
	return true
}

// playOf returns for each stack whether the plan saves it in the truth.
func playOf(plan []int, t shelter.Truth) []bool {
	var out []bool
	for i, hour := range plan {
		water := t.Rain + t.Leaks[i]
		out = append(out, hour >= 0 && hour < water)
	}
	return out
}

// chairsOf returns the chairs of these stacks together.
func chairsOf(s shelter.Shelter, which []bool) int {
	sum := 0
	for i, is := range which {
		if is {
			sum += s.Stacks[i].Chairs
		}
	}
	return sum
}

// allChairs returns the chairs of all stacks together.
func allChairs(s shelter.Shelter) int {
	sum := 0
	for _, x := range s.Stacks {
		sum += x.Chairs
	}
	return sum
}

// savedOf returns for each stack whether the plan saves it.
func savedOf(plan []int, truths []shelter.Truth) []int {
	var out []int
	for i := range plan {
		in := 0
		for _, t := range truths {
			if playOf(plan, t)[i] {
				in++
			}
		}
		switch in {
		case len(truths):
			out = append(out, shelter.Always)
		case 0:
			out = append(out, shelter.Never)
		default:
			out = append(out, shelter.Perhaps)
		}
	}
	return out
}

// sureOf returns the number of chairs of which the plan is sure.
func sureOf(s shelter.Shelter, plan []int, truths []shelter.Truth) int {
	least := allChairs(s)
	for _, t := range truths {
		least = min(least, chairsOf(s, playOf(plan, t)))
	}
	return least
}

// spanOf returns the span of a stack.
func spanOf(s shelter.Shelter, i int) int { return s.Rain.Lo + s.Stacks[i].Leak.Lo }

// canAll reports whether some plan closes all these stacks before their spans: by Hall's
// theorem, if no hour has too many of them before it.
func canAll(s shelter.Shelter, which []bool) bool {
	for hour := range api.MaxShelterLast + 2 {
		before := 0
		for i, is := range which {
			if is && spanOf(s, i) <= hour {
				before++
			}
		}
		if before > s.Hands*hour {
			return false
		}
	}
	return true
}

// bestOf returns the sure number: stacks that are not saved always are saved in no truth
// that has the least hour of the rain and the least leaks.
func bestOf(s shelter.Shelter) int {
	best := 0
	for set := range 1 << len(s.Stacks) {
		which := make([]bool, len(s.Stacks))
		for i := range which {
			which[i] = set>>i&1 == 1
		}
		if n := chairsOf(s, which); n > best && canAll(s, which) {
			best = n
		}
	}
	return best
}

// handsOf returns the least number of hands that save all chairs, or one that is too
// great.
func handsOf(s shelter.Shelter) int {
	hands := 0
	for hands <= api.MaxShelterHands && bestOf(withHands(s, hands)) < allChairs(s) {
		hands++
	}
	return hands
}

// lostOf returns the stacks that have chairs, and that cannot be saved even if no other
// one is closed.
func lostOf(s shelter.Shelter) []int {
	var out []int
	for i, x := range s.Stacks {
		which := make([]bool, len(s.Stacks))
		which[i] = true
		if x.Chairs > 0 && !canAll(s, which) {
			out = append(out, i)
		}
	}
	return out
}

func worthOf(s shelter.Shelter, i int) int { return bestOf(s) - bestOf(emptied(s, i)) }

// isProof reports whether the list is a proof.
func isProof(list []shelter.Step) bool {
	for i, x := range list {
		if x.Chairs < 1 || x.Chairs > 99 || x.Before < 0 || x.Before > 18 {
			return false
		}
		for _, y := range list[:i] {
			if y.Chairs >= x.Chairs {
				return false
			}
		}
	}
	return len(list) > 0
}

// boundOf returns the bound of a proof.
func boundOf(s shelter.Shelter, proof []shelter.Step) int {
	greatest, sum := 0, 0
	for _, x := range s.Stacks {
		greatest = max(greatest, x.Chairs)
	}
	for n := 1; n <= greatest; n++ {
		at := 0
		for at < len(proof)-1 && proof[at].Chairs < n {
			at++
		}
		sum += s.Hands * proof[at].Before
		for i, x := range s.Stacks {
			if x.Chairs >= n && spanOf(s, i) > proof[at].Before {
				sum++
			}
		}
	}
	return sum
}

// leftOf returns what is left by the plan, and the chairs that are saved.
func leftOf(s shelter.Shelter, plan []int, hour int) (shelter.Shelter, int) {
	left, saved := copied(s), 0
	left.Rain = to(0, 0)
	for i, n := range plan {
		if n >= 0 && n < hour {
			saved += left.Stacks[i].Chairs
			left.Stacks[i].Chairs = 0
		}
	}
	return left, saved
}

// allPlans returns all plans of which no stack is closed after the hour.
func allPlans(s shelter.Shelter, last int) [][]int {
	out := [][]int{nil}
	for range s.Stacks {
		var longer [][]int
		for _, l := range out {
			for hour := -1; hour <= last; hour++ {
				longer = append(longer, append(slices.Clone(l), hour))
			}
		}
		out = longer
	}
	return slices.DeleteFunc(out, func(l []int) bool { return !isPlan(s, l) })
}

// allProofs returns all proofs whose steps have no more chairs than that, and no later
// hour.
func allProofs(chairs, last int) [][]shelter.Step {
	out := [][]shelter.Step{nil}
	for n := 1; n <= chairs; n++ {
		for _, l := range out {
			for hour := 0; hour <= last; hour++ {
				out = append(out, append(slices.Clone(l), shelter.Step{Chairs: n, Before: hour}))
			}
		}
	}
	return out[1:]
}

func list(l ...int) []int { return l }

func to(low, high int) shelter.Range { return shelter.Range{Lo: low, Hi: high} }

func stack(chairs, low, high int) shelter.Stack {
	return shelter.Stack{Chairs: chairs, Leak: to(low, high)}
}

// shed has hands, a range of the rain, and stacks.
func shed(hands, low, high int, l ...shelter.Stack) shelter.Shelter {
	return shelter.Shelter{Stacks: l, Hands: hands, Rain: to(low, high)}
}

func truth(rain int, leaks ...int) shelter.Truth { return shelter.Truth{Rain: rain, Leaks: leaks} }

// steps returns a proof: chairs and hours.
func steps(l ...int) []shelter.Step {
	var out []shelter.Step
	for i := 0; i < len(l); i += 2 {
		out = append(out, shelter.Step{Chairs: l[i], Before: l[i+1]})
	}
	return out
}

// example is the shelter of the chapter's examples.
func example() shelter.Shelter {
	return shed(1, 2, 4, stack(10, 0, 1), stack(8, 0, 0), stack(6, 1, 2), stack(5, 0, 0))
}

// early is the shelter of the chapter's last example.
func early() shelter.Shelter {
	s := example()
	s.Stacks[2].Leak, s.Rain = to(0, 0), to(0, 4)
	return s
}

// copied returns a shelter that shares no memory with the given one.
func copied(s shelter.Shelter) shelter.Shelter {
	s.Stacks = slices.Clone(s.Stacks)
	return s
}

func withHands(s shelter.Shelter, hands int) shelter.Shelter {
	s = copied(s)
	s.Hands = hands
	return s
}

// emptied returns the shelter in which the stack has no chairs.
func emptied(s shelter.Shelter, i int) shelter.Shelter {
	s = copied(s)
	s.Stacks[i].Chairs = 0
	return s
}

// someRange returns a range of hours whose low end is at most that, and whose size is at
// most the other number.
func someRange(rnd *rand.Rand, low, size int) shelter.Range {
	n := rnd.Intn(low + 1)
	return to(n, min(n+rnd.Intn(size), api.MaxShelterHour))
}

// someShelter returns a shelter with not too many truths, in which often not all stacks
// can be saved, and often several have as many chairs.
func someShelter(rnd *rand.Rand) shelter.Shelter {
	soon := list(1, 2, 3, api.MaxShelterHour)[rnd.Intn(4)]
	s := shelter.Shelter{Hands: list(0, 1, 1, 1, 2, 3)[rnd.Intn(6)], Rain: someRange(rnd, min(soon, rnd.Intn(10)), 3)}
	most := list(2, 9, api.MaxShelterChairs)[rnd.Intn(3)]
	many := 1
	for range min(rnd.Intn(12), api.MaxShelterStacks) {
		x := shelter.Stack{Chairs: rnd.Intn(most + 1), Leak: someRange(rnd, soon, 3)}
		if wider := many * (x.Leak.Hi - x.Leak.Lo + 1); wider <= 40 {
			many = wider
		} else {
			x.Leak.Hi = x.Leak.Lo
		}
		s.Stacks = append(s.Stacks, x)
	}
	return s
}

// somePlan returns a plan that closes most stacks, many of them in an hour in which they
// are saved, or nearly so.
func somePlan(rnd *rand.Rand, s shelter.Shelter) []int {
	plan := slices.Repeat(list(-1), len(s.Stacks))
	for _, i := range rnd.Perm(len(plan)) {
		for range 4 {
			hour := rnd.Intn(spanOf(s, i) + 4)
			if rnd.Intn(8) == 0 {
				hour = rnd.Intn(api.MaxShelterLast + 1)
			}
			plan[i] = hour
			if isPlan(s, plan) {
				break
			}
			plan[i] = -1
		}
	}
	return plan
}

// plansOf returns some plans of the shelter: the one that closes nothing, some that are
// chosen, and the one of Best.
func plansOf(rnd *rand.Rand, s shelter.Shelter) [][]int {
	out := [][]int{slices.Repeat(list(-1), len(s.Stacks)), somePlan(rnd, s), somePlan(rnd, s), somePlan(rnd, s)}
	if p, _, e := shelter.Best(s); e == api.OK {
		out = append(out, p)
	}
	return out
}

// someProof returns a proof, often with steps that have numbers of the shelter.
func someProof(rnd *rand.Rand, s shelter.Shelter) []shelter.Step {
	met := map[int]bool{}
	for range 1 + rnd.Intn(4) {
		n := 1 + rnd.Intn(api.MaxShelterChairs)
		if len(s.Stacks) > 0 && rnd.Intn(4) > 0 {
			n = max(1, s.Stacks[rnd.Intn(len(s.Stacks))].Chairs+rnd.Intn(2))
		}
		met[min(n, api.MaxShelterChairs)] = true
	}
	var out []shelter.Step
	for n := range api.MaxShelterChairs + 1 {
		if !met[n] {
			continue
		}
		hour := rnd.Intn(api.MaxShelterLast + 2)
		if len(s.Stacks) > 0 && rnd.Intn(4) > 0 {
			hour = spanOf(s, rnd.Intn(len(s.Stacks)))
		}
		out = append(out, shelter.Step{Chairs: n, Before: hour})
	}
	return out
}

// eachShelter calls the function with many shelters, each with a generator of its own
// for what else is chosen. Tests that call it run beside each other.
func eachShelter(t *testing.T, f func(t *testing.T, s shelter.Shelter, rnd *rand.Rand)) {
	t.Helper()
	t.Parallel()
	for seed := range 600 {
		rnd := rand.New(rand.NewSource(int64(seed)))
		f(t, someShelter(rnd), rnd)
		if t.Failed() {
			return
		}
	}
}

// atLeast wants that a test has met enough of what it is about.
func atLeast(t *testing.T, met, wanted int, what string) {
	t.Helper()
	if !t.Failed() && met < wanted {
		t.Errorf("only %d %s", met, what)
	}
}

// The calls of a shelter of which the test says that they have a result.

func play(t *testing.T, s shelter.Shelter, plan []int, x shelter.Truth) []bool {
	t.Helper()
	l, e := shelter.Play(s, plan, x)
	if e != api.OK {
		t.Fatalf("Play of %v, %v, %v: %v", s, plan, x, e)
	}
	return l
}

func saved(t *testing.T, s shelter.Shelter, plan []int) []int {
	t.Helper()
	l, e := shelter.Saved(s, plan)
	if e != api.OK {
		t.Fatalf("Saved of %v, %v: %v", s, plan, e)
	}
	return l
}

func sure(t *testing.T, s shelter.Shelter, plan []int) int {
	t.Helper()
	n, e := shelter.Sure(s, plan)
	if e != api.OK {
		t.Fatalf("Sure of %v, %v: %v", s, plan, e)
	}
	return n
}

func best(t *testing.T, s shelter.Shelter) ([]int, int) {
	t.Helper()
	l, n, e := shelter.Best(s)
	if e != api.OK {
		t.Fatalf("Best of %v: %v", s, e)
	}
	return l, n
}

// number returns the sure number, as Best says.
func number(t *testing.T, s shelter.Shelter) int {
	t.Helper()
	_, n := best(t, s)
	return n
}

func show(t *testing.T, s shelter.Shelter) ([]shelter.Step, int) {
	t.Helper()
	l, n, e := shelter.Show(s)
	if e != api.OK {
		t.Fatalf("Show of %v: %v", s, e)
	}
	return l, n
}

// hands returns what Hands does, and whether there is such a number.
func hands(t *testing.T, s shelter.Shelter) (int, bool) {
	t.Helper()
	n, e := shelter.Hands(s)
	if e != api.OK && e != api.ErrShort {
		t.Fatalf("Hands of %v: %v", s, e)
	}
	return n, e == api.OK
}

func lost(t *testing.T, s shelter.Shelter) []int {
	t.Helper()
	l, e := shelter.Lost(s)
	if e != api.OK {
		t.Fatalf("Lost of %v: %v", s, e)
	}
	return l
}

func worth(t *testing.T, s shelter.Shelter, i int) int {
	t.Helper()
	n, e := shelter.Worth(s, i)
	if e != api.OK {
		t.Fatalf("Worth of %v, %d: %v", s, i, e)
	}
	return n
}

func left(t *testing.T, s shelter.Shelter, plan []int, hour int) (shelter.Shelter, int) {
	t.Helper()
	x, n, e := shelter.Left(s, plan, hour)
	if e != api.OK {
		t.Fatalf("Left of %v, %v, %d: %v", s, plan, hour, e)
	}
	return x, n
}

func same(a, b shelter.Shelter) bool {
	return slices.Equal(a.Stacks, b.Stacks) && a.Hands == b.Hands && a.Rain == b.Rain
}
