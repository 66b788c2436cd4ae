package shelter_test

import (
	"math"
	"slices"
	"testing"

	"foreshore/api"
	"foreshore/shelter"
)

// changed returns the shelter of the example, after a change.
func changed(f func(s *shelter.Shelter)) shelter.Shelter {
	s := example()
	f(&s)
	return s
}

type flawed struct {
	name    string
	shelter shelter.Shelter
	want    api.Errno
}

// limited are shelters at the limit and above it, which counts before other errors.
func limited() []flawed {
	return []flawed{
		{"valid", example(), api.OK},
		{"no shelter", shelter.Shelter{}, api.OK},
		{"no stacks", changed(func(s *shelter.Shelter) { s.Stacks = nil }), api.OK},
		{"most stacks", changed(func(s *shelter.Shelter) { s.Stacks = make([]shelter.Stack, 8) }), api.OK},
		{"too many stacks", changed(func(s *shelter.Shelter) { s.Stacks = make([]shelter.Stack, 9) }), api.ErrLimit},
		{"by far too many stacks", changed(func(s *shelter.Shelter) { s.Stacks = make([]shelter.Stack, 999) }), api.ErrLimit},
		{"too many stacks, and Hands of -1", changed(func(s *shelter.Shelter) { s.Stacks, s.Hands = make([]shelter.Stack, 9), -1 }), api.ErrLimit},
		{"too many stacks, and rain after the last hour", changed(func(s *shelter.Shelter) { s.Stacks, s.Rain = make([]shelter.Stack, 9), to(0, 10) }), api.ErrLimit},
		{"too many stacks that are not valid", changed(func(s *shelter.Shelter) { s.Stacks = slices.Repeat([]shelter.Stack{stack(-1, 5, 4)}, 9) }), api.ErrLimit},
	}
}

// invalid are shelters that are not valid otherwise, and ones that are just so.
func invalid() []flawed {
	return []flawed{
		{"Hands of -1", changed(func(s *shelter.Shelter) { s.Hands = -1 }), api.ErrArg},
		{"Hands of 0", changed(func(s *shelter.Shelter) { s.Hands = 0 }), api.OK},
		{"Hands of 3", changed(func(s *shelter.Shelter) { s.Hands = 3 }), api.OK},
		{"Hands of 4", changed(func(s *shelter.Shelter) { s.Hands = 4 }), api.ErrArg},
		{"Hands of 4, and no stacks", changed(func(s *shelter.Shelter) { s.Hands, s.Stacks = 4, nil }), api.ErrArg},
		{"rain from -1", changed(func(s *shelter.Shelter) { s.Rain.Lo = -1 }), api.ErrArg},
		{"rain from 0", changed(func(s *shelter.Shelter) { s.Rain.Lo = 0 }), api.OK},
		{"rain to 9", changed(func(s *shelter.Shelter) { s.Rain.Hi = 9 }), api.OK},
		{"rain to 10", changed(func(s *shelter.Shelter) { s.Rain.Hi = 10 }), api.ErrArg},
		{"rain in 9 alone", changed(func(s *shelter.Shelter) { s.Rain = to(9, 9) }), api.OK},
		{"rain turned", changed(func(s *shelter.Shelter) { s.Rain = to(4, 3) }), api.ErrArg},
		{"rain turned, and no stacks", changed(func(s *shelter.Shelter) { s.Rain, s.Stacks = to(4, 3), nil }), api.ErrArg},
		{"chairs of -1", changed(func(s *shelter.Shelter) { s.Stacks[3].Chairs = -1 }), api.ErrArg},
		{"chairs of 0", changed(func(s *shelter.Shelter) { s.Stacks[3].Chairs = 0 }), api.OK},
		{"chairs of 99", changed(func(s *shelter.Shelter) { s.Stacks[3].Chairs = 99 }), api.OK},
		{"chairs of 100", changed(func(s *shelter.Shelter) { s.Stacks[3].Chairs = 100 }), api.ErrArg},
		{"a leak from -1", changed(func(s *shelter.Shelter) { s.Stacks[0].Leak.Lo = -1 }), api.ErrArg},
		{"a leak to 9", changed(func(s *shelter.Shelter) { s.Stacks[0].Leak.Hi = 9 }), api.OK},
		{"a leak to 10", changed(func(s *shelter.Shelter) { s.Stacks[3].Leak.Hi = 10 }), api.ErrArg},
		{"a leak of 9 alone", changed(func(s *shelter.Shelter) { s.Stacks[1].Leak = to(9, 9) }), api.OK},
		{"a leak turned", changed(func(s *shelter.Shelter) { s.Stacks[2].Leak = to(2, 1) }), api.ErrArg},
		{"a leak turned in a stack without chairs", changed(func(s *shelter.Shelter) { s.Stacks[2] = stack(0, 2, 1) }), api.ErrArg},
	}
}

// asked is what is asked about a shelter.
type asked struct {
	plan  []int
	truth shelter.Truth
	stack int
	hour  int
}

// call is a call with what it has together with an error.
type call struct {
	name string
	do   func(s shelter.Shelter, a asked) (zero bool, e api.Errno)
}

var (
	playing = call{"Play", func(s shelter.Shelter, a asked) (bool, api.Errno) {
		l, e := shelter.Play(s, a.plan, a.truth)
		return l == nil, e
	}}
	saving = call{"Saved", func(s shelter.Shelter, a asked) (bool, api.Errno) {
		l, e := shelter.Saved(s, a.plan)
		return l == nil, e
	}}
	relying = call{"Sure", func(s shelter.Shelter, a asked) (bool, api.Errno) {
		n, e := shelter.Sure(s, a.plan)
		return n == 0, e
	}}
	choosing = call{"Best", func(s shelter.Shelter, a asked) (bool, api.Errno) {
		l, n, e := shelter.Best(s)
		return l == nil && n == 0, e
	}}
	showing = call{"Show", func(s shelter.Shelter, a asked) (bool, api.Errno) {
		l, n, e := shelter.Show(s)
		return l == nil && n == 0, e
	}}
	needing = call{"Hands", func(s shelter.Shelter, a asked) (bool, api.Errno) {
		n, e := shelter.Hands(s)
		return n == 0, e
	}}
	losing = call{"Lost", func(s shelter.Shelter, a asked) (bool, api.Errno) {
		l, e := shelter.Lost(s)
		return l == nil, e
	}}
	weighing = call{"Worth", func(s shelter.Shelter, a asked) (bool, api.Errno) {
		n, e := shelter.Worth(s, a.stack)
		return n == 0, e
	}}
	leaving = call{"Left", func(s shelter.Shelter, a asked) (bool, api.Errno) {
		l, n, e := shelter.Left(s, a.plan, a.hour)
		return l.Stacks == nil && l.Hands == 0 && l.Rain == to(0, 0) && n == 0, e
	}}
)

func withPlan() []call { return []call{playing, saving, relying, leaving} }

func calls() []call { return append(withPlan(), choosing, showing, needing, losing, weighing) }

// expect does the call, and wants the error, and with it nothing else.
func expect(t *testing.T, c call, s shelter.Shelter, a asked, want api.Errno) {
	t.Helper()
	zero, e := c.do(s, a)
	if e != want {
		t.Errorf("%s of %v, %v: %v, not %v", c.name, s, a, e, want)
	}
	if e != api.OK && !zero {
		t.Errorf("%s of %v, %v: a result with %v", c.name, s, a, e)
	}
}

// lowest returns the truth with the least numbers.
func lowest(s shelter.Shelter) shelter.Truth {
	t := truth(s.Rain.Lo)
	for _, x := range s.Stacks {
		t.Leaks = append(t.Leaks, x.Leak.Lo)
	}
	return t
}

// expectRange wants that the list is no plan of the shelter.
func expectRange(t *testing.T, s shelter.Shelter, plan []int) {
	t.Helper()
	for _, c := range withPlan() {
		expect(t, c, s, asked{plan: plan, truth: lowest(s), hour: s.Rain.Lo}, api.ErrRange)
		expect(t, c, s, asked{plan: plan, truth: truth(-1), hour: -1}, api.ErrRange)
	}
	if shelter.ProveSure(s, plan, 0) || shelter.ProveSure(s, plan, math.MinInt) {
		t.Errorf("proved: %v, %v", s, plan)
	}
}

// P11.1, and the row "all" of the errors: each call has the error of the shelter, before
// any other one; the proofs are false.
func TestErrorsOfTheShelter(t *testing.T) {
	for _, x := range slices.Concat(limited(), invalid()) {
		t.Run(x.name, func(t *testing.T) {
			if e := shelter.CheckShelter(x.shelter); e != x.want {
				t.Errorf("CheckShelter of %v: %v, not %v", x.shelter, e, x.want)
			}
			nothing := slices.Repeat(list(-1), len(x.shelter.Stacks))
			if x.want == api.OK {
				for _, c := range append(withPlan(), choosing, showing, losing) {
					expect(t, c, x.shelter, asked{plan: nothing, truth: lowest(x.shelter), hour: x.shelter.Rain.Hi}, api.OK)
				}
				return
			}
			for _, a := range []asked{{}, {nothing, lowest(x.shelter), 0, x.shelter.Rain.Lo}, {list(0, 1, 2, -1), truth(2, 0, 0, 1, 0), 3, 2}, {list(77), truth(-1), -1, -1}} {
				for _, c := range calls() {
					expect(t, c, x.shelter, a, x.want)
				}
				if shelter.ProveSure(x.shelter, a.plan, 0) || shelter.ProveBound(x.shelter, steps(99, 18), math.MaxInt) {
					t.Errorf("proved: %v, %v", x.shelter, a)
				}
			}
		})
	}
}

// Play, Saved, Sure and Left have ErrRange for lists that are no plans.
func TestErrorsOfThePlan(t *testing.T) {
	for _, l := range [][]int{
		nil, {}, list(0, 1, 2), list(0, 1, 2, 3, 4), list(0, 1, 2, 3, -1), make([]int, 999),
		list(0, 1, 2, -2), list(-2, -1, -1, -1), list(0, 1, 2, 18), list(18, -1, -1, -1), list(math.MinInt, 0, 1, 2), list(0, 1, 2, math.MaxInt), list(0, 1, 1<<32+2, 3), list(0, 1, 2, -1<<32),
		list(0, 0, 1, 2), list(0, 1, 2, 2), list(17, -1, -1, 17), list(5, 5, 5, 5), list(3, -1, 3, -1),
	} {
		expectRange(t, example(), l)
	}
	for _, x := range []struct {
		hands int
		plan  []int
		want  bool
	}{
		{0, list(-1, -1, -1, -1), true}, {0, list(0, -1, -1, -1), false}, {0, list(-1, -1, -1, 17), false},
		{1, list(-1, -1, -1, -1), true}, {1, list(17, 16, 15, 14), true}, {1, list(3, 2, 1, 0), true}, {1, list(3, 2, 1, 3), false},
		{2, list(0, 0, 1, 1), true}, {2, list(0, 1, 0, 1), true}, {2, list(0, 0, 0, 1), false}, {2, list(17, 1, 17, 17), false},
		{3, list(0, 0, 0, 1), true}, {3, list(17, 17, -1, 17), true}, {3, list(0, 0, 0, 0), false}, {3, list(-1, -1, -1, -1), true},
	} {
		s := withHands(example(), x.hands)
		if !x.want {
			expectRange(t, s, x.plan)
			continue
		}
		for _, c := range withPlan() {
			expect(t, c, s, asked{plan: x.plan, truth: lowest(s), hour: 2}, api.OK)
		}
	}
	expectRange(t, shed(3, 0, 0), list(-1))
	expectRange(t, shed(3, 0, 0), list(0))
}

// Play has ErrRange for a truth that has not one number of each range.
func TestErrorsOfTheTruth(t *testing.T) {
	for _, x := range []shelter.Truth{
		{}, truth(3), truth(3, 0, 0, 1), truth(3, 0, 0, 1, 0, 0), truth(3, make([]int, 999)...),
		truth(1, 0, 0, 1, 0), truth(5, 0, 0, 1, 0), truth(-1, 0, 0, 1, 0), truth(1<<32+3, 0, 0, 1, 0), truth(math.MinInt, 0, 0, 1, 0), truth(math.MaxInt, 0, 0, 1, 0),
		truth(3, 2, 0, 1, 0), truth(3, -1, 0, 1, 0), truth(3, 0, 1, 1, 0), truth(3, 0, 0, 0, 0), truth(3, 0, 0, 3, 0), truth(3, 0, 0, 1, 1), truth(3, 0, 0, 1, -1), truth(3, 0, 0, 1, math.MinInt), truth(3, math.MaxInt, 0, 1, 0), truth(3, 0, 0, 1<<32+1, 0),
	} {
		expect(t, playing, example(), asked{plan: list(0, 1, 2, -1), truth: x}, api.ErrRange)
		expect(t, playing, example(), asked{plan: list(-1, -1, -1, -1), truth: x}, api.ErrRange)
		expect(t, playing, example(), asked{plan: list(0, 0), truth: x}, api.ErrRange)
	}
	for _, x := range []shelter.Truth{truth(2, 0, 0, 1, 0), truth(4, 1, 0, 2, 0), truth(3, 1, 0, 1, 0)} {
		expect(t, playing, example(), asked{plan: list(0, 1, 2, -1), truth: x}, api.OK)
	}
	expect(t, playing, shed(0, 3, 3), asked{truth: truth(3)}, api.OK)
	expect(t, playing, shed(0, 3, 3), asked{truth: truth(3, 0)}, api.ErrRange)
	expect(t, playing, shed(0, 3, 3), asked{truth: truth(0)}, api.ErrRange)
}

// Worth has ErrRange if there is no such stack, Left if the hour is not one of Rain.
func TestErrorsOfTheStackAndTheHour(t *testing.T) {
	for _, n := range []int{math.MinInt, -1 << 32, -1, 4, 5, 8, 99, 1 << 32, math.MaxInt} {
		expect(t, weighing, example(), asked{stack: n}, api.ErrRange)
	}
	for n := range 4 {
		expect(t, weighing, example(), asked{stack: n}, api.OK)
	}
	expect(t, weighing, shed(1, 0, 0), asked{}, api.ErrRange)
	for _, n := range []int{math.MinInt, -1, 0, 1, 5, 9, 1<<32 + 2, math.MaxInt} {
		expect(t, leaving, example(), asked{plan: list(0, 1, 2, -1), hour: n}, api.ErrRange)
	}
	for n := 2; n <= 4; n++ {
		expect(t, leaving, example(), asked{plan: list(0, 1, 2, -1), hour: n}, api.OK)
		expect(t, leaving, example(), asked{plan: list(0, 1, 2, 2), hour: n}, api.ErrRange)
	}
	expect(t, leaving, shed(0, 0, 0), asked{}, api.OK)
	expect(t, leaving, shed(0, 1, 1), asked{}, api.ErrRange)
}

// Hands has ErrShort if no number of hands saves all chairs.
func TestErrorsOfHands(t *testing.T) {
	late := func(many, span int) shelter.Shelter {
		return shed(0, span, 9, slices.Repeat([]shelter.Stack{stack(1, 0, 9)}, many)...)
	}
	for _, x := range []struct {
		s    shelter.Shelter
		want api.Errno
	}{
		{early(), api.ErrShort}, {example(), api.OK}, {shed(3, 0, 0), api.OK},
		{late(1, 0), api.ErrShort}, {late(1, 1), api.OK}, {late(3, 1), api.OK}, {late(4, 1), api.ErrShort}, {late(6, 2), api.OK}, {late(7, 2), api.ErrShort}, {late(8, 3), api.OK},
		{shed(3, 0, 0, stack(0, 0, 0)), api.OK}, {shed(3, 0, 0, stack(0, 0, 0), stack(1, 0, 0)), api.ErrShort},
	} {
		expect(t, needing, x.s, asked{}, x.want)
	}
}

// ProveBound is false for lists that are no proofs, whatever the number is.
func TestErrorsOfTheProof(t *testing.T) {
	for _, l := range [][]shelter.Step{
		nil, {}, steps(0, 2), steps(-1, 2), steps(100, 2), steps(math.MinInt, 2), steps(math.MaxInt, 2), steps(1<<32+1, 2),
		steps(1, -1), steps(1, 19), steps(1, math.MinInt), steps(1, math.MaxInt), steps(1, 1<<32),
		steps(5, 2, 5, 0), steps(5, 2, 4, 0), steps(5, 2, 10, 0, 10, 0), steps(5, 2, 10, 0, 9, 0), steps(1, 0, 3, 0, 2, 0), steps(5, 2, 100, 0), steps(5, 2, 10, -1), steps(0, 2, 10, 0), steps(5, 19, 10, 0),
		make([]shelter.Step, 999), slices.Repeat(steps(1, 0), 99),
	} {
		for _, s := range []shelter.Shelter{example(), shed(3, 0, 0), early()} {
			if shelter.ProveBound(s, l, math.MaxInt) || shelter.ProveBound(s, l, 999) {
				t.Errorf("proved: %v, %v", s, l)
			}
		}
	}
	var most []shelter.Step
	for n := range api.MaxShelterChairs {
		most = append(most, shelter.Step{Chairs: n + 1, Before: n % 19})
	}
	for _, l := range [][]shelter.Step{steps(1, 0), steps(99, 0), steps(1, 18), steps(99, 18), steps(98, 18, 99, 0), steps(1, 0, 2, 0), steps(1, 0, 2, 1, 3, 0, 99, 18), most} {
		for _, s := range []shelter.Shelter{example(), shed(3, 0, 0), early()} {
			if !shelter.ProveBound(s, l, math.MaxInt) || shelter.ProveBound(s, l, math.MinInt) {
				t.Errorf("not proved: %v, %v", s, l)
			}
		}
	}
}

// callAll does all calls of a shelter.
func callAll(s shelter.Shelter, a asked, proof []shelter.Step, n int) {
	shelter.CheckShelter(s)
	for _, c := range calls() {
		c.do(s, a)
	}
	shelter.ProveSure(s, a.plan, n)
	shelter.ProveBound(s, proof, n)
}

// P1: no call panics, whatever the arguments are.
func TestNothingPanics(t *testing.T) {
	odd := []int{math.MinInt, -1 << 32, -2, -1, 0, 1, 2, 3, 4, 5, 9, 10, 17, 18, 19, 64, 99, 100, 1 << 32, math.MaxInt}
	for _, m := range odd {
		for _, n := range odd {
			for _, change := range []func(s *shelter.Shelter){
				func(s *shelter.Shelter) {},
				func(s *shelter.Shelter) { *s = shelter.Shelter{} },
				func(s *shelter.Shelter) { *s = shelter.Shelter{Hands: m, Rain: to(n, n)} },
				func(s *shelter.Shelter) { s.Stacks = make([]shelter.Stack, 999) },
				func(s *shelter.Shelter) { s.Stacks = nil },
				func(s *shelter.Shelter) { s.Hands, s.Stacks[1].Chairs = m, n },
				func(s *shelter.Shelter) { s.Rain = to(m, n) },
				func(s *shelter.Shelter) { s.Stacks[0].Leak = to(m, n) },
				func(s *shelter.Shelter) { s.Stacks[3] = stack(m, n, n) },
			} {
				s := changed(change)
				callAll(s, asked{list(0, m, 2, n), truth(m, 0, n, 1, 0), m, n}, steps(m, n), n)
				callAll(s, asked{list(0, 1, 2, -1), truth(3, 0, m, n, 0), n, m}, steps(5, m, n, 0), m)
				callAll(s, asked{nil, shelter.Truth{}, m, n}, nil, n)
				callAll(s, asked{list(m), truth(n), m, m}, steps(1, 2, m, n, 9, 3), 0)
			}
		}
	}
}
