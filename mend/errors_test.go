package mend_test

import (
	"math"
	"slices"
	"testing"

	"foreshore/api"
	"foreshore/mend"
)

// changed returns the yard of the example with a claim, after a change.
func changed(f func(y *mend.Yard)) mend.Yard {
	y := example(to(2, 3))
	f(&y)
	return y
}

type flawed struct {
	name string
	yard mend.Yard
	want api.Errno
}

// limited are yards at the limits and above them.
func limited() []flawed {
	return []flawed{
		{"valid", changed(func(y *mend.Yard) {}), api.OK},
		{"no yard", mend.Yard{}, api.OK},
		{"no chairs", changed(func(y *mend.Yard) { y.Chairs = nil }), api.OK},
		{"most chairs", changed(func(y *mend.Yard) { y.Chairs = make([]mend.Chair, 7) }), api.OK},
		{"too many chairs", changed(func(y *mend.Yard) { y.Chairs = make([]mend.Chair, 8) }), api.ErrLimit},
		{"no claims", changed(func(y *mend.Yard) { y.Claims = nil }), api.OK},
		{"most claims", changed(func(y *mend.Yard) { y.Claims = make([]mend.Range, 5) }), api.OK},
		{"too many claims", changed(func(y *mend.Yard) { y.Claims = make([]mend.Range, 6) }), api.ErrLimit},
		{"most unknown parts", widest(), api.OK},
		{"too many unknown parts", changed(func(y *mend.Yard) { *y = widest(); y.Chairs[3].Parts[1] = 2 }), api.ErrLimit},
		{"nothing known", changed(func(y *mend.Yard) { y.Chairs = slices.Repeat([]mend.Chair{chair(0, 2, 2, 2)}, 7) }), api.ErrLimit},
		{"nothing known of two chairs", changed(func(y *mend.Yard) { y.Chairs = slices.Repeat([]mend.Chair{chair(0, 2, 2, 2)}, 2) }), api.OK},
		{"nothing known of three chairs", changed(func(y *mend.Yard) { y.Chairs = slices.Repeat([]mend.Chair{chair(0, 2, 2, 2)}, 3) }), api.ErrLimit},
	}
}

// invalid are yards that are not valid otherwise, and ones that are just so.
func invalid() []flawed {
	return []flawed{
		{"a Fit of -1", changed(func(y *mend.Yard) { y.Fit = -1 }), api.ErrArg},
		{"a Fit of 0", changed(func(y *mend.Yard) { y.Fit = 0 }), api.OK},
		{"a Fit of 9", changed(func(y *mend.Yard) { y.Fit = 9 }), api.OK},
		{"a Fit of 10", changed(func(y *mend.Yard) { y.Fit = 10 }), api.ErrArg},
		{"a Size of -1", changed(func(y *mend.Yard) { y.Chairs[0].Size = -1 }), api.ErrArg},
		{"a Size of 0", changed(func(y *mend.Yard) { y.Chairs[0].Size = 0 }), api.OK},
		{"a Size of 9", changed(func(y *mend.Yard) { y.Chairs[4].Size = 9 }), api.OK},
		{"a Size of 10", changed(func(y *mend.Yard) { y.Chairs[4].Size = 10 }), api.ErrArg},
		{"a canvas of -1", changed(func(y *mend.Yard) { y.Chairs[0].Parts[0] = -1 }), api.ErrArg},
		{"a canvas of 3", changed(func(y *mend.Yard) { y.Chairs[2].Parts[0] = 3 }), api.ErrArg},
		{"a canvas of 2", changed(func(y *mend.Yard) { y.Chairs[2].Parts[0] = 2 }), api.OK},
		{"a left lath of -1", changed(func(y *mend.Yard) { y.Chairs[4].Parts[1] = -1 }), api.ErrArg},
		{"a left lath of 3", changed(func(y *mend.Yard) { y.Chairs[1].Parts[1] = 3 }), api.ErrArg},
		{"a right lath of -1", changed(func(y *mend.Yard) { y.Chairs[0].Parts[2] = -1 }), api.ErrArg},
		{"a right lath of 3", changed(func(y *mend.Yard) { y.Chairs[4].Parts[2] = 3 }), api.ErrArg},
		{"a claim of -1 to 1", changed(func(y *mend.Yard) { y.Claims[0] = to(-1, 1) }), api.ErrArg},
		{"a claim of -1", changed(func(y *mend.Yard) { y.Claims[0] = to(-1, -1) }), api.ErrArg},
		{"a claim of 0", changed(func(y *mend.Yard) { y.Claims[0] = to(0, 0) }), api.OK},
		{"a claim of 0 to 7", changed(func(y *mend.Yard) { y.Claims[0] = to(0, 7) }), api.OK},
		{"a claim of 7, of five chairs", changed(func(y *mend.Yard) { y.Claims[0] = to(7, 7) }), api.OK},
		{"a claim of 0 to 8", changed(func(y *mend.Yard) { y.Claims[0] = to(0, 8) }), api.ErrArg},
		{"a claim of 8", changed(func(y *mend.Yard) { y.Claims[0] = to(8, 8) }), api.ErrArg},
		{"a claim turned", changed(func(y *mend.Yard) { y.Claims[0] = to(3, 2) }), api.ErrArg},
		{"the last claim", changed(func(y *mend.Yard) { y.Claims = append(y.Claims, to(2, 2), to(2, 1)) }), api.ErrArg},
		{"a claim of a yard without chairs", mend.Yard{Claims: []mend.Range{to(2, 1)}}, api.ErrArg},
	}
}

// ordered are yards with several errors, of which the first one counts.
func ordered() []flawed {
	unknown := slices.Repeat([]mend.Chair{chair(0, 2, 2, 2)}, 7)
	return []flawed{
		{"too many chairs, and a Fit of 10", changed(func(y *mend.Yard) { y.Chairs, y.Fit = make([]mend.Chair, 8), 10 }), api.ErrLimit},
		{"too many chairs that are not valid", changed(func(y *mend.Yard) { y.Chairs = slices.Repeat([]mend.Chair{chair(10, 3, 3, 3)}, 8) }), api.ErrLimit},
		{"too many claims that are not valid", changed(func(y *mend.Yard) { y.Claims = slices.Repeat([]mend.Range{to(2, 1)}, 6) }), api.ErrLimit},
		{"too many claims, and a Size of 10", changed(func(y *mend.Yard) { y.Claims, y.Chairs[0].Size = make([]mend.Range, 6), 10 }), api.ErrLimit},
		{"nothing known, and a Fit of -1", mend.Yard{Chairs: unknown, Fit: -1}, api.ErrArg},
		{"nothing known, and a claim that is not valid", mend.Yard{Chairs: unknown, Claims: []mend.Range{to(0, 8)}}, api.ErrArg},
		{"nothing known, and a part of 3", mend.Yard{Chairs: append(slices.Clone(unknown[:6]), chair(0, 2, 2, 3))}, api.ErrArg},
		{"nothing known, and a Size of 10", mend.Yard{Chairs: append(slices.Clone(unknown[:6]), chair(10, 0, 0, 0))}, api.ErrArg},
		{"nothing known, and claims that are not all right", mend.Yard{Chairs: unknown, Claims: []mend.Range{to(0, 0), to(7, 7)}}, api.ErrLimit},
		{"claims that are not all right", example(to(0, 0), to(7, 7)), api.OK},
	}
}

// call is a call with what it has together with an error.
type call struct {
	name string
	do   func(y mend.Yard, truth []mend.Parts) (zero bool, e api.Errno)
}

var (
	playing = call{"Play", func(y mend.Yard, truth []mend.Parts) (bool, api.Errno) {
		n, e := mend.Play(y, truth)
		return n == 0, e
	}}
	pairing = call{"Pairs", func(y mend.Yard, truth []mend.Parts) (bool, api.Errno) {
		l, e := mend.Pairs(y, truth)
		return l == nil, e
	}}
	showing = call{"Berge", func(y mend.Yard, truth []mend.Parts) (bool, api.Errno) {
		l, n, e := mend.Berge(y, truth)
		return l == nil && n == 0, e
	}}
	bounding = call{"Bounds", func(y mend.Yard, truth []mend.Parts) (bool, api.Errno) {
		r, e := mend.Bounds(y)
		return r == mend.Range{}, e
	}}
	relying = call{"Sure", func(y mend.Yard, truth []mend.Parts) (bool, api.Errno) {
		l, n, e := mend.Sure(y)
		return l == nil && n == 0, e
	}}
	finding = call{"First", func(y mend.Yard, truth []mend.Parts) (bool, api.Errno) {
		n, e := mend.First(y)
		return n == 0, e
	}}
	leaving = call{"Leave", func(y mend.Yard, truth []mend.Parts) (bool, api.Errno) {
		l, e := mend.Leave(y)
		return l == nil, e
	}}
)

func calls() []call {
	return []call{playing, pairing, showing, bounding, relying, finding, leaving}
}

// expect does the call, and wants the error, and with it nothing else.
func expect(t *testing.T, c call, y mend.Yard, truth []mend.Parts, want api.Errno) {
	t.Helper()
	zero, e := c.do(y, truth)
	if e != want {
		t.Errorf("%s of %v, %v: %v, not %v", c.name, y, truth, e, want)
	}
	if e != api.OK && !zero {
		t.Errorf("%s of %v, %v: a result with %v", c.name, y, truth, e)
	}
}

// isProved reports whether any of the proofs is true.
func isProved(y mend.Yard, truth []mend.Parts) bool {
	return mend.ProveTruth(y, truth) || mend.ProvePairs(y, truth, nil, 0) || mend.ProveBerge(y, truth, nil, 99) || mend.ProveSure(y, nil, 0)
}

// asTold returns the parts of the yard's chairs, as they are, and with what is not
// known broken.
func asTold(y mend.Yard) (told, broken []mend.Parts) {
	for _, c := range y.Chairs {
		told = append(told, c.Parts)
		for place, part := range c.Parts {
			if part == 2 {
				c.Parts[place] = 0
			}
		}
		broken = append(broken, c.Parts)
	}
	return told, broken
}

// P7.1, and the row "all" of the errors: each call has the error of the yard, before
// any other one; the proofs are false.
func TestErrorsOfTheYard(t *testing.T) {
	for _, x := range slices.Concat(limited(), invalid(), ordered()) {
		t.Run(x.name, func(t *testing.T) {
			if e := mend.CheckYard(x.yard); e != x.want {
				t.Errorf("CheckYard of %v: %v, not %v", x.yard, e, x.want)
			}
			told, broken := asTold(x.yard)
			if x.want == api.OK {
				expect(t, playing, x.yard, broken, api.OK)
				expect(t, leaving, x.yard, broken, api.OK)
				return
			}
			for _, truth := range [][]mend.Parts{nil, told, broken, truthWith(0), truthWith(2)} {
				for _, c := range calls() {
					expect(t, c, x.yard, truth, x.want)
				}
				if isProved(x.yard, truth) {
					t.Errorf("proved: %v, %v", x.yard, truth)
				}
			}
		})
	}
}

// Lists that are no truths: an error of Play, Pairs and Berge, whatever the claims
// are; no proof about a truth is true.
func TestNoTruth(t *testing.T) {
	least, most := math.MinInt, math.MaxInt
	var bad [][]mend.Parts
	for _, lath := range []int{-1, 2, 3, 256, 1 << 32, least, most} {
		bad = append(bad, truthWith(lath))
	}
	for at, parts := range []mend.Parts{{0, 0, 0}, {1, 1, 1}, {1, 1, 1}, {1, 1, 0}, {2, 0, 0}} {
		l := truthWith(1)
		l[at] = parts
		bad = append(bad, l)
	}
	bad = append(bad, nil, []mend.Parts{}, truthWith(1)[:4], truthWith(1)[1:], append(truthWith(1), mend.Parts{}), append(truthWith(1), truthWith(1)...))
	for _, y := range []mend.Yard{example(), example(to(3, 3)), example(to(0, 0)), example(to(0, 1), to(7, 7))} {
		for _, truth := range bad {
			for _, c := range []call{playing, pairing, showing} {
				expect(t, c, y, truth, api.ErrRange)
			}
			if mend.ProveTruth(y, truth) || mend.ProvePairs(y, truth, nil, 0) || mend.ProveBerge(y, truth, nil, 99) {
				t.Errorf("proved: %v, %v", y, truth)
			}
		}
	}
	expect(t, playing, mend.Yard{}, []mend.Parts{{}}, api.ErrRange)
	expect(t, playing, mend.Yard{Chairs: make([]mend.Chair, 1)}, nil, api.ErrRange)
	expect(t, playing, mend.Yard{Chairs: make([]mend.Chair, 7)}, make([]mend.Parts, 8), api.ErrRange)
	expect(t, playing, mend.Yard{Chairs: make([]mend.Chair, 7)}, make([]mend.Parts, 7), api.OK)
}

// Play, Pairs, Berge and their proofs do not ask about claims; ProveTruth does.
func TestClaimsAreNotAsked(t *testing.T) {
	for _, y := range []mend.Yard{example(to(2, 2)), example(to(0, 0)), example(to(3, 3), to(0, 2)), example(to(0, 1), to(4, 7))} {
		truth := truthWith(1)
		if n := play(t, y, truth); n != 3 {
			t.Errorf("Play of %v: %d", y, n)
		}
		l := paired(t, y, truth)
		proof, bound := berge(t, y, truth)
		if bound != 3 || !mend.ProvePairs(y, truth, l, 3) || !mend.ProveBerge(y, truth, proof, 3) {
			t.Errorf("Pairs, Berge of %v: %v, %v, %d", y, l, proof, bound)
		}
		if mend.ProveTruth(y, truth) {
			t.Errorf("ProveTruth of %v", y)
		}
	}
}

// Yards without a truth, and without a wrong claim.
func TestNoTruthOfTheYard(t *testing.T) {
	for _, x := range []struct {
		y             mend.Yard
		bounds, first api.Errno
	}{
		{example(), api.OK, api.ErrNone},
		{example(to(2, 3)), api.OK, api.ErrNone},
		{example(to(2, 2), to(0, 7)), api.OK, api.ErrNone},
		{example(to(0, 1)), api.ErrFalse, api.OK},
		{example(to(2, 2), to(3, 3)), api.ErrFalse, api.OK},
		{mend.Yard{}, api.OK, api.ErrNone},
		{mend.Yard{Claims: []mend.Range{to(1, 7)}}, api.ErrFalse, api.OK},
	} {
		_, truth := asTold(x.y)
		expect(t, bounding, x.y, nil, x.bounds)
		expect(t, relying, x.y, nil, x.bounds)
		expect(t, finding, x.y, nil, x.first)
		expect(t, leaving, x.y, nil, api.OK)
		expect(t, playing, x.y, truth, api.OK)
		if mend.ProveSure(x.y, nil, 0) != (x.bounds == api.OK) || mend.ProveSure(x.y, nil, math.MinInt) != (x.bounds == api.OK) {
			t.Errorf("ProveSure of %v", x.y)
		}
	}
}

// Lists that are no pairings: no proof about them is true, however few chairs they
// would have to make.
func TestNoPairing(t *testing.T) {
	least, most := math.MinInt, math.MaxInt
	for _, l := range [][]mend.Pair{
		pairs(1, 0), pairs(0, 0), pairs(4, 5), pairs(0, 5), pairs(5, 6), pairs(0, 7), pairs(0, 8), pairs(0, 64), pairs(-1, 0), pairs(-1, 1), pairs(-2, -1),
		pairs(0, 1, 0, 1), pairs(0, 1, 1, 2), pairs(0, 1, 0, 2), pairs(1, 2, 0, 2), pairs(1, 2, 0, 1), pairs(0, 1, 2, 3, 3, 4), pairs(0, 1, 3, 2),
		pairs(least, 0), pairs(0, most), pairs(least, most), pairs(most, least), pairs(0, 1<<32), pairs(1<<32, 1<<32+1),
		slices.Repeat(pairs(0, 1), 100),
	} {
		for _, many := range []int{least, -1, 0, 1} {
			if mend.ProvePairs(example(), truthWith(1), l, many) || mend.ProveSure(example(), l, many) {
				t.Errorf("proved: %v, %d", l, many)
			}
		}
	}
	for _, l := range [][]mend.Pair{nil, {}, pairs(0, 1), pairs(3, 4), pairs(2, 4, 0, 1), pairs(0, 3, 1, 2)} {
		for _, many := range []int{least, -1, 0, 1} {
			if !mend.ProvePairs(example(), truthWith(1), l, many) || !mend.ProveSure(example(), l, many) {
				t.Errorf("not proved: %v, %d", l, many)
			}
		}
		if mend.ProvePairs(example(), truthWith(1), l, most) || mend.ProveSure(example(), l, most) {
			t.Errorf("proved: %v", l)
		}
	}
	if mend.ProvePairs(mend.Yard{}, nil, pairs(0, 1), 0) || mend.ProveSure(mend.Yard{}, pairs(0, 1), 0) {
		t.Error("proved: a pair of no chairs")
	}
}

// Lists that are no proofs, however high their bound may be.
func TestNoProof(t *testing.T) {
	least, most := math.MinInt, math.MaxInt
	for _, l := range [][]int{{3}, {0, 3}, {3, 4}, {1, 0}, {0, 0}, {0, 1, 1}, {4, 2}, {5}, {6}, {7}, {8}, {-1}, {-1, 0}, {64}, {least}, {most}, {0, most}, {least, 0}, {1 << 32}, {0, 1, 2, 4, 5}, slices.Repeat(list(1), 100)} {
		for _, many := range []int{2, 9, most} {
			if mend.ProveBerge(example(), truthWith(0), l, many) {
				t.Errorf("proved: %v, %d", l, many)
			}
		}
	}
	for _, l := range [][]int{nil, {}, {0}, {4}, {0, 1}, {0, 1, 2, 4}} {
		if !mend.ProveBerge(example(), truthWith(0), l, 9) || !mend.ProveBerge(example(), truthWith(0), l, most) || mend.ProveBerge(example(), truthWith(0), l, least) || mend.ProveBerge(example(), truthWith(0), l, 0) {
			t.Errorf("ProveBerge of %v", l)
		}
	}
	if mend.ProveBerge(mend.Yard{}, nil, list(0), 9) || !mend.ProveBerge(mend.Yard{}, nil, nil, 0) || mend.ProveBerge(mend.Yard{}, nil, nil, -1) {
		t.Error("ProveBerge of a yard without chairs")
	}
}

// callAll does all calls of a yard.
func callAll(y mend.Yard, truth []mend.Parts, l []mend.Pair, proof []int, many int) {
	mend.CheckYard(y)
	for _, c := range calls() {
		c.do(y, truth)
	}
	mend.ProveTruth(y, truth)
	mend.ProvePairs(y, truth, l, many)
	mend.ProveBerge(y, truth, proof, many)
	mend.ProveSure(y, l, many)
}

// P1: no call panics, whatever the arguments are.
func TestNothingPanics(t *testing.T) {
	odd := []int{math.MinInt, -1 << 32, -1, 0, 1, 2, 3, 7, 8, 9, 10, 64, 1 << 32, math.MaxInt}
	for _, m := range odd {
		for _, n := range odd {
			for _, change := range []func(y *mend.Yard){
				func(y *mend.Yard) {},
				func(y *mend.Yard) { *y = mend.Yard{} },
				func(y *mend.Yard) { y.Chairs = make([]mend.Chair, 99) },
				func(y *mend.Yard) { y.Claims = make([]mend.Range, 99) },
				func(y *mend.Yard) { y.Fit, y.Chairs[0].Size = m, n },
				func(y *mend.Yard) { y.Chairs[1].Parts[0], y.Chairs[2].Parts[1] = m, n },
				func(y *mend.Yard) { y.Claims[0] = to(m, n) },
				func(y *mend.Yard) { *y = widest(to(m, n)) },
			} {
				y := changed(change)
				_, truth := asTold(y)
				callAll(y, truth, pairs(m, n), list(m, n), m)
				callAll(y, truth, pairs(0, m, 1, n), list(0, m, n), n)
				callAll(y, []mend.Parts{{m, n, m}}, nil, nil, 0)
				callAll(y, truthWith(m), pairs(m, 1, n, 2), list(n), m)
				callAll(y, nil, nil, nil, n)
			}
		}
	}
}
