package mend_test

import (
	"math/rand"
	"slices"
	"testing"

	"foreshore/api"
	"foreshore/mend"
)

// P7.7, P2 and P3: what is returned holds in each truth that is proved, and both
// ends are reached; the pairing that is sure makes its number in each.
func TestInEachTruth(t *testing.T) {
	eachTrue(t, func(t *testing.T, y mend.Yard, rnd *rand.Rand) {
		r := bounds(t, y)
		l, n := sure(t, y)
		met := map[int]bool{}
		for _, truth := range allTruths(y) {
			if !mend.ProveTruth(y, truth) {
				continue
			}
			most := play(t, y, truth)
			met[most] = true
			if most < r.Lo || most > r.Hi || !mend.ProvePairs(y, truth, l, n) {
				t.Errorf("Bounds, Sure of %v: %v, %v, %d, but %d in %v", y, r, l, n, most, truth)
			}
		}
		if !met[r.Lo] || !met[r.Hi] {
			t.Errorf("Bounds of %v: %v", y, r)
		}
		if l := leave(t, y); len(l) != 0 {
			t.Errorf("Leave of %v: %v", y, l)
		}
	})
}

// P7.7 and P6: claims that are right in some truth need not be left out.
func TestClaimsThatAreRight(t *testing.T) {
	met := 0
	eachYard(t, func(t *testing.T, y mend.Yard, rnd *rand.Rand) {
		many := len(leave(t, y))
		for range 10 {
			truth := someTruth(rnd, y)
			most, wrong := play(t, y, truth), 0
			for _, r := range y.Claims {
				if !areRight([]mend.Range{r}, most) {
					wrong++
				}
			}
			if wrong > 0 {
				met++
			}
			if wrong < many {
				t.Errorf("Leave of %v: %d claims, but in %v %d are wrong", y, many, truth, wrong)
			}
		}
	})
	atLeast(t, met, 1000, "truths in which a claim is wrong")
}

// P7.8 and P5: no pairing makes more than the most chairs, and no proof has a
// smaller bound.
func TestNoMore(t *testing.T) {
	eachYard(t, func(t *testing.T, y mend.Yard, rnd *rand.Rand) {
		truth := someTruth(rnd, y)
		most := play(t, y, truth)
		for _, l := range allPairings(len(y.Chairs)) {
			if mend.ProvePairs(y, truth, l, most+1) {
				t.Errorf("Play of %v, %v: %d, but %v", y, truth, most, l)
			}
		}
		for _, l := range allProofs(truth) {
			if mend.ProveBerge(y, truth, l, most-1) {
				t.Errorf("Play of %v, %v: %d, but the proof %v", y, truth, most, l)
			}
		}
		l := paired(t, y, truth)
		proof, bound := berge(t, y, truth)
		if bound != most || !mend.ProvePairs(y, truth, l, most) || !mend.ProveBerge(y, truth, proof, most) {
			t.Errorf("Pairs, Berge of %v, %v: %v, %v, %d", y, truth, l, proof, bound)
		}
	})
}

// P7.9 and P5: the sure number.
func TestSureNumber(t *testing.T) {
	known := 0
	eachTrue(t, func(t *testing.T, y mend.Yard, rnd *rand.Rand) {
		l, n := sure(t, y)
		if n > bounds(t, y).Lo || !mend.ProveSure(y, l, n) {
			t.Errorf("Sure of %v: %v, %d, but %v", y, l, n, bounds(t, y))
		}
		if len(allTruths(y)) <= 16 {
			for _, other := range allPairings(len(y.Chairs)) {
				if mend.ProveSure(y, other, n+1) {
					t.Errorf("Sure of %v: %d, but %v", y, n, other)
				}
			}
		}
		truth := someTruth(rnd, y)
		x := copied(y)
		x.Claims = nil
		for i, p := range truth {
			x.Chairs[i].Parts = p
		}
		known++
		if _, n := sure(t, x); n != play(t, x, truth) || bounds(t, x) != to(n, n) {
			t.Errorf("Sure of %v, of which all is known: %d", x, n)
		}
	})
	atLeast(t, known, 250, "yards of which all is known")
}

// P7.10: a part is whole instead of broken.
func TestPartMore(t *testing.T) {
	met := map[int]int{}
	eachYard(t, func(t *testing.T, y mend.Yard, rnd *rand.Rand) {
		truth := someTruth(rnd, y)
		for i, p := range truth {
			for place, part := range p {
				if part == 1 {
					continue
				}
				x, better := copied(y), slices.Clone(truth)
				better[i][place], x.Chairs[i].Parts[place] = 1, 1
				by := play(t, x, better) - play(t, y, truth)
				met[by]++
				if by < 0 || by > 1 {
					t.Errorf("Play of %v, %v with one part more: %d more", y, truth, by)
				}
			}
		}
	})
	atLeast(t, met[0], 500, "parts that make no more")
	atLeast(t, met[1], 500, "parts that make one more")
}

// P7.11: one chair more, and a greater Fit.
func TestChairMore(t *testing.T) {
	met := map[int]int{}
	eachYard(t, func(t *testing.T, y mend.Yard, rnd *rand.Rand) {
		if len(y.Chairs) == api.MaxMendChairs {
			return
		}
		truth := someTruth(rnd, y)
		at := rnd.Intn(len(truth) + 1)
		c := mend.Chair{Size: rnd.Intn(api.MaxMendSize + 1), Parts: someParts(rnd)}
		if len(y.Chairs) > 0 && rnd.Intn(3) > 0 {
			c.Size = y.Chairs[0].Size
		}
		x := copied(y)
		x.Chairs = slices.Insert(x.Chairs, at, c)
		by := play(t, x, slices.Insert(slices.Clone(truth), at, c.Parts)) - play(t, y, truth)
		met[by]++
		if by < 0 || by > 1 {
			t.Errorf("Play of %v, %v with %v: %d more", y, truth, c, by)
		}
	})
	atLeast(t, met[0], 50, "chairs that make no more")
	atLeast(t, met[1], 50, "chairs that make one more")
}

func TestGreaterFit(t *testing.T) {
	more := 0
	eachYard(t, func(t *testing.T, y mend.Yard, rnd *rand.Rand) {
		truth := someTruth(rnd, y)
		x := copied(y)
		before := 0
		for x.Fit = range api.MaxMendSize + 1 {
			n := play(t, x, truth)
			if n < before {
				t.Errorf("Play of %v, %v: %d, but %d with a smaller Fit", x, truth, n, before)
			}
			if x.Fit > 0 {
				more += n - before
			}
			before = n
		}
	})
	atLeast(t, more, 60, "chairs more with a greater Fit")
}

// narrower wants that in the first yard, which has a truth, the bounds are not
// wider than in the second one, and the sure number is not less. It reports whether
// one of them is another one.
func narrower(t *testing.T, a, b mend.Yard) bool {
	t.Helper()
	r, s := bounds(t, a), bounds(t, b)
	_, m := sure(t, a)
	_, n := sure(t, b)
	if r.Lo < s.Lo || r.Hi > s.Hi || m < n {
		t.Errorf("Bounds, Sure of %v: %v, %d, of %v: %v, %d", a, r, m, b, s, n)
	}
	return r != s || m != n
}

// P7.12: a part that was not known is known.
func TestKnownPart(t *testing.T) {
	kept, other := 0, 0
	eachTrue(t, func(t *testing.T, y mend.Yard, rnd *rand.Rand) {
		for i, c := range y.Chairs {
			for place, part := range c.Parts {
				if part != 2 {
					continue
				}
				x := copied(y)
				x.Chairs[i].Parts[place] = rnd.Intn(2)
				if hasTruth(t, x) {
					kept++
					if narrower(t, x, y) {
						other++
					}
				}
			}
		}
	})
	atLeast(t, kept, 300, "parts that are known")
	atLeast(t, other, 50, "parts that change what is known")
}

// P7.13: one more claim.
func TestOneMoreClaim(t *testing.T) {
	kept, other, grown := 0, 0, 0
	eachYard(t, func(t *testing.T, y mend.Yard, rnd *rand.Rand) {
		if len(y.Claims) == api.MaxMendClaims {
			return
		}
		more := copied(y)
		more.Claims = slices.Insert(more.Claims, rnd.Intn(len(y.Claims)+1), someClaim(rnd, mostOf(y, someTruth(rnd, y))))
		a, b := leave(t, y), leave(t, more)
		if len(b) < len(a) || len(b) > len(a)+1 {
			t.Errorf("Leave of %v: %v, of %v: %v", y, a, more, b)
		}
		grown += len(b) - len(a)
		if hasTruth(t, more) {
			kept++
			if narrower(t, more, y) {
				other++
			}
		}
	})
	atLeast(t, kept, 150, "yards that have a truth with one more claim")
	atLeast(t, other, 30, "claims that change what is known")
	atLeast(t, grown, 50, "smallest sets that are longer with one more claim")
}

// sameNumbers wants that the bounds, the sure number and the number of claims that
// have to be left out are the same.
func sameNumbers(t *testing.T, a, b mend.Yard) {
	t.Helper()
	if l, m := leave(t, a), leave(t, b); len(l) != len(m) {
		t.Errorf("Leave of %v: %v, of %v: %v", a, l, b, m)
	}
	if hasTruth(t, a) != hasTruth(t, b) {
		t.Errorf("%v and %v", a, b)
	}
	if !hasTruth(t, a) {
		return
	}
	_, m := sure(t, a)
	_, n := sure(t, b)
	if bounds(t, a) != bounds(t, b) || m != n {
		t.Errorf("Bounds, Sure of %v: %v, %d, of %v: %v, %d", a, bounds(t, a), m, b, bounds(t, b), n)
	}
}

// P7.14: two chairs exchange their numbers.
func TestExchangedChairs(t *testing.T) {
	eachYard(t, func(t *testing.T, y mend.Yard, rnd *rand.Rand) {
		if len(y.Chairs) < 2 {
			return
		}
		x := copied(y)
		i, j := rnd.Intn(len(y.Chairs)), rnd.Intn(len(y.Chairs))
		x.Chairs[i], x.Chairs[j] = x.Chairs[j], x.Chairs[i]
		sameNumbers(t, y, x)
	})
}

// P7: claims in any order.
func TestAnyOrder(t *testing.T) {
	eachYard(t, func(t *testing.T, y mend.Yard, rnd *rand.Rand) {
		x := copied(y)
		rnd.Shuffle(len(x.Claims), func(i, j int) { x.Claims[i], x.Claims[j] = x.Claims[j], x.Claims[i] })
		sameNumbers(t, y, x)
	})
}

// P7.15 and P6: the claims before the first wrong one, and with it.
func TestClaimsUpToTheFirstWrongOne(t *testing.T) {
	met := 0
	eachYard(t, func(t *testing.T, y mend.Yard, rnd *rand.Rand) {
		n, e := mend.First(y)
		if (e == api.ErrNone) != hasTruth(t, y) {
			t.Errorf("First of %v: %v", y, e)
		}
		if e != api.OK {
			return
		}
		met++
		before, upTo := copied(y), copied(y)
		before.Claims, upTo.Claims = before.Claims[:n], upTo.Claims[:n+1]
		if !hasTruth(t, before) || hasTruth(t, upTo) {
			t.Errorf("First of %v: %d", y, n)
		}
	})
	atLeast(t, met, 100, "yards with a first wrong claim")
}

// P7.16, P5 and P6: no set before the smallest one can be left out.
func TestSmallestSet(t *testing.T) {
	met := 0
	eachYard(t, func(t *testing.T, y mend.Yard, rnd *rand.Rand) {
		l := leave(t, y)
		if !hasTruth(t, without(y, l)) {
			t.Errorf("Leave of %v: %v, but there is no truth without it", y, l)
		}
		for _, other := range subsets(len(y.Claims)) {
			if slices.Equal(other, l) {
				break
			}
			met++
			if hasTruth(t, without(y, other)) {
				t.Errorf("Leave of %v: %v, but there is a truth without %v", y, l, other)
			}
		}
	})
	atLeast(t, met, 200, "sets before the smallest one")
}

// P4: each chair that is made is a whole one, or needs two broken ones of its own.
func TestNothingIsMade(t *testing.T) {
	eachYard(t, func(t *testing.T, y mend.Yard, rnd *rand.Rand) {
		truth := someTruth(rnd, y)
		whole, n := wholeIn(truth), play(t, y, truth)
		if n < whole || n > whole+(len(truth)-whole)/2 {
			t.Errorf("Play of %v, %v: %d", y, truth, n)
		}
	})
}

// R3: nil and a list without elements.
func TestNilIsEmpty(t *testing.T) {
	empty := mend.Yard{Chairs: []mend.Chair{}, Claims: []mend.Range{}}
	for _, y := range []mend.Yard{{}, empty} {
		for _, none := range [][]mend.Parts{nil, {}} {
			if n := play(t, y, none); n != 0 || !mend.ProveTruth(y, none) {
				t.Errorf("Play: %d", n)
			}
			if l := paired(t, y, none); len(l) != 0 {
				t.Errorf("Pairs: %v", l)
			}
			if l, n := berge(t, y, none); len(l) != 0 || n != 0 {
				t.Errorf("Berge: %v, %d", l, n)
			}
			for _, l := range [][]mend.Pair{nil, {}} {
				if !mend.ProvePairs(y, none, l, 0) || !mend.ProveSure(y, l, 0) {
					t.Error("not proved: no pairs")
				}
			}
			for _, l := range [][]int{nil, {}} {
				if !mend.ProveBerge(y, none, l, 0) {
					t.Error("not proved: no chairs")
				}
			}
		}
		if l, n := sure(t, y); len(l) != 0 || n != 0 {
			t.Errorf("Sure: %v, %d", l, n)
		}
		if r, l := bounds(t, y), leave(t, y); r != to(0, 0) || len(l) != 0 {
			t.Errorf("Bounds, Leave: %v, %v", r, l)
		}
		expect(t, finding, y, nil, api.ErrNone)
	}
}

func sameYard(a, b mend.Yard) bool {
	return slices.Equal(a.Chairs, b.Chairs) && a.Fit == b.Fit && slices.Equal(a.Claims, b.Claims)
}

// R4: arguments are not written to, also not behind their ends.
func TestArgumentsAreKept(t *testing.T) {
	whole := example(to(2, 3), to(3, 3), to(2, 2), to(7, 7), to(9, 9))
	whole.Chairs = append(whole.Chairs, chair(7, 7, 7, 7))
	truth := append(truthWith(1), mend.Parts{7, 7, 7})
	pairing, proof := pairs(0, 1, 2, 4, 7, 7), list(1, 2, 77)
	kept, keptTruth, keptPairing, keptProof := copied(whole), slices.Clone(truth), slices.Clone(pairing), slices.Clone(proof)
	for claims := range 4 {
		y := whole
		y.Chairs, y.Claims = y.Chairs[:5], y.Claims[:claims]
		callAll(y, truth[:5], pairing[:2], proof[:2], 3)
		expect(t, playing, y, truth[:5], api.OK)
		if !mend.ProvePairs(y, truth[:5], pairing[:2], 3) || !mend.ProveBerge(y, truth[:5], proof[:2], 3) {
			t.Errorf("not proved: %v", y)
		}
	}
	if !sameYard(whole, kept) || !slices.Equal(truth, keptTruth) || !slices.Equal(pairing, keptPairing) || !slices.Equal(proof, keptProof) {
		t.Errorf("%v, %v, %v, %v became %v, %v, %v, %v", kept, keptTruth, keptPairing, keptProof, whole, truth, pairing, proof)
	}
}

// R4: results are in memory of their own.
func TestResultsAreApart(t *testing.T) {
	star, truth := known(mend.Parts{1, 0, 0}, mend.Parts{0, 1, 1}, mend.Parts{1, 0, 0}, mend.Parts{1, 0, 0})
	star.Claims = []mend.Range{to(1, 1), to(2, 2)}
	free := without(star, list(0, 1))
	for range 2 {
		made, left := paired(t, star, truth), leave(t, star)
		proof, _ := berge(t, star, truth)
		best, _ := sure(t, free)
		if len(made) != 1 || makes(star, truth, made) != 1 || !slices.Equal(proof, list(1)) || makes(star, truth, best) != 1 || !slices.Equal(left, list(1)) {
			t.Errorf("results: %v, %v, %v, %v", made, proof, best, left)
		}
		for _, l := range [][]int{proof, left} {
			for i := range l {
				l[i] = 77
			}
		}
		for _, l := range [][]mend.Pair{made, best} {
			for i := range l {
				l[i] = mend.Pair{A: 77, B: 77}
			}
		}
	}
	if !slices.Equal(star.Claims, []mend.Range{to(1, 1), to(2, 2)}) || truth[1] != (mend.Parts{0, 1, 1}) {
		t.Errorf("a result shares memory with an argument: %v, %v", star, truth)
	}
}

// A call with equal arguments returns equal results.
func TestAgain(t *testing.T) {
	eachTrue(t, func(t *testing.T, y mend.Yard, rnd *rand.Rand) {
		sameNumbers(t, y, copied(y))
		truth := someTruth(rnd, y)
		if l, m := leave(t, y), leave(t, copied(y)); !slices.Equal(l, m) {
			t.Errorf("Leave of %v: %v and %v", y, l, m)
		}
		if l, m := paired(t, y, truth), paired(t, copied(y), truth); !slices.Equal(l, m) {
			t.Errorf("Pairs of %v: %v and %v", y, l, m)
		}
		l, m := sure(t, y)
		p, n := sure(t, copied(y))
		if m != n || !slices.Equal(l, p) {
			t.Errorf("Sure of %v: %v, %d and %v, %d", y, l, m, p, n)
		}
	})
}
