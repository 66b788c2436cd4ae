package mend_test

import (
	"math/rand"
	"slices"
	"testing"

	"foreshore/api"
	"foreshore/mend"
)

func TestExamples(t *testing.T) {
	if e := mend.CheckYard(example()); e != api.OK {
		t.Errorf("CheckYard: %v", e)
	}
	for lath, want := range []int{2, 3} {
		truth := truthWith(lath)
		if n := play(t, example(), truth); n != want {
			t.Errorf("Play with the lath %d: %d", lath, n)
		}
		if l := paired(t, example(), truth); !isPairing(l, 5) || makes(example(), truth, l) != want {
			t.Errorf("Pairs with the lath %d: %v", lath, l)
		}
		if l, n := berge(t, example(), truth); n != want || boundOf(example(), truth, l) != want {
			t.Errorf("Berge with the lath %d: %v, %d", lath, l, n)
		}
	}
	if !mend.ProvePairs(example(), truthWith(1), pairs(0, 1, 2, 4), 3) || !mend.ProvePairs(example(), truthWith(0), pairs(0, 1), 2) {
		t.Error("the pairings are not proved")
	}
	if !mend.ProveBerge(example(), truthWith(0), list(1), 2) {
		t.Error("the proof is not proved")
	}
	for _, x := range []struct {
		y    mend.Yard
		want mend.Range
		many int
	}{{example(), to(2, 3), 2}, {example(to(3, 5)), to(3, 3), 3}} {
		if r := bounds(t, x.y); r != x.want {
			t.Errorf("Bounds of %v: %v", x.y, r)
		}
		if l, n := sure(t, x.y); n != x.many || !mend.ProveSure(x.y, l, n) || !mend.ProveSure(x.y, pairs(0, 1, 2, 4), n) {
			t.Errorf("Sure of %v: %v, %d", x.y, l, n)
		}
	}
	wrong := example(to(3, 5), to(0, 2))
	if n, e := mend.First(wrong); n != 1 || e != api.OK {
		t.Errorf("First: %d, %v", n, e)
	}
	if l := leave(t, wrong); !slices.Equal(l, list(0)) {
		t.Errorf("Leave: %v", l)
	}
}

// The seventh example of the document: a chair with a whole canvas and one with two
// whole laths make a whole one, if their sizes are near.
func TestCanvasAndLaths(t *testing.T) {
	for _, x := range []struct{ size, other, fit, want int }{
		{3, 3, 0, 1}, {3, 4, 0, 0}, {4, 3, 0, 0}, {3, 4, 1, 1}, {4, 3, 1, 1}, {3, 5, 1, 0}, {5, 3, 1, 0}, {0, 9, 8, 0}, {9, 0, 8, 0}, {0, 9, 9, 1}, {9, 0, 9, 1},
	} {
		y := mend.Yard{Chairs: []mend.Chair{chair(x.size, 1, 0, 0), chair(x.other, 0, 1, 1)}, Fit: x.fit}
		truth := []mend.Parts{{1, 0, 0}, {0, 1, 1}}
		if n := play(t, y, truth); n != x.want {
			t.Errorf("Play of %v: %d", y, n)
		}
		if mend.ProvePairs(y, truth, pairs(0, 1), 1) != (x.want == 1) {
			t.Errorf("ProvePairs of %v is not %v", y, x.want == 1)
		}
	}
}

// P7.1 to P7.3 by hand, with chairs of one size.
func TestMostByHand(t *testing.T) {
	canvas, left, right, laths, whole, nothing := mend.Parts{1, 0, 0}, mend.Parts{1, 1, 0}, mend.Parts{1, 0, 1}, mend.Parts{0, 1, 1}, mend.Parts{1, 1, 1}, mend.Parts{}
	for _, x := range []struct {
		chairs []mend.Parts
		want   int
	}{
		{nil, 0},
		{[]mend.Parts{canvas}, 0},
		{[]mend.Parts{whole}, 1},
		{[]mend.Parts{whole, whole}, 2},   // two whole ones are not joined
		{[]mend.Parts{whole, nothing}, 1}, // nor is a broken one to a whole one
		{[]mend.Parts{canvas, laths, whole}, 2},
		{[]mend.Parts{left, right}, 1},                     // both canvases are whole
		{[]mend.Parts{left, left}, 0},                      // both right laths are broken
		{[]mend.Parts{{0, 1, 0}, {0, 0, 1}}, 0},            // both canvases are broken
		{[]mend.Parts{{1, 0, 0}, {0, 1, 0}, {0, 0, 1}}, 0}, // three are not joined
		{[]mend.Parts{left, right, laths}, 1},              // all fit, but one is left
		{[]mend.Parts{canvas, laths, left, right}, 2},
		{[]mend.Parts{laths, left, right, canvas}, 2}, // not the first pair that fits
		{[]mend.Parts{left, laths, right, canvas}, 2},
		{[]mend.Parts{canvas, canvas, canvas, laths}, 1},                 // a star
		{[]mend.Parts{left, right, laths, left, right, laths, laths}, 3}, // seven
		{[]mend.Parts{whole, left, whole, right, whole, laths, canvas}, 5},
		{[]mend.Parts{whole, whole, whole, whole, whole, whole, whole}, 7},
	} {
		y, truth := known(x.chairs...)
		if n := play(t, y, truth); n != x.want {
			t.Errorf("Play of %v: %d", truth, n)
		}
		l := paired(t, y, truth)
		if !isPairing(l, len(truth)) || makes(y, truth, l) != x.want {
			t.Errorf("Pairs of %v: %v", truth, l)
		}
		if proof, n := berge(t, y, truth); n != x.want || boundOf(y, truth, proof) != x.want {
			t.Errorf("Berge of %v: %v, %d", truth, proof, n)
		}
		if r := bounds(t, y); r != to(x.want, x.want) {
			t.Errorf("Bounds of %v: %v", truth, r)
		}
		if l, n := sure(t, y); n != x.want || makes(y, truth, l) != x.want {
			t.Errorf("Sure of %v: %v, %d", truth, l, n)
		}
	}
}

// P7.3 by hand: three groups behind one chair, as with three canvases and the laths
// in the middle, and groups that are chains.
func TestProofsByHand(t *testing.T) {
	star, starTruth := known(mend.Parts{1, 0, 0}, mend.Parts{0, 1, 1}, mend.Parts{1, 0, 0}, mend.Parts{1, 0, 0})
	// 0, 1 and 2 fit as their sizes are near, and so do 2 and 3; 4 is whole.
	chain := mend.Yard{Chairs: []mend.Chair{chair(1, 1, 1, 0), chair(2, 1, 0, 1), chair(3, 0, 1, 1), chair(5, 1, 1, 0), chair(5, 1, 1, 1)}, Fit: 2}
	chainTruth := []mend.Parts{{1, 1, 0}, {1, 0, 1}, {0, 1, 1}, {1, 1, 0}, {1, 1, 1}}
	for _, x := range []struct {
		y     mend.Yard
		truth []mend.Parts
		proof []int
		bound int
	}{
		{star, starTruth, nil, 2}, {star, starTruth, list(0), 2}, {star, starTruth, list(1), 1}, {star, starTruth, list(0, 1), 2}, {star, starTruth, list(0, 2, 3), 3}, {star, starTruth, list(0, 1, 2, 3), 4},
		{chain, chainTruth, nil, 3}, {chain, chainTruth, list(2), 3}, {chain, chainTruth, list(3), 3}, {chain, chainTruth, list(0, 3), 4}, {chain, chainTruth, list(1, 2), 3}, {chain, chainTruth, list(0, 1, 2, 3), 5},
	} {
		if n := boundOf(x.y, x.truth, x.proof); n != x.bound {
			t.Errorf("the oracle is wrong: %v: %d", x, n)
		}
		if !mend.ProveBerge(x.y, x.truth, x.proof, x.bound) || !mend.ProveBerge(x.y, x.truth, x.proof, x.bound+1) || mend.ProveBerge(x.y, x.truth, x.proof, x.bound-1) {
			t.Errorf("ProveBerge of %v", x)
		}
	}
	if _, n := berge(t, star, starTruth); n != 1 {
		t.Errorf("Berge of the star: %d", n)
	}
}

// P7.4 and P7.5 by hand: no pairing is sure of as many as can be had in each truth,
// and one that is sure though it is not known which of its pairs fits.
func TestSureByHand(t *testing.T) {
	// One of the chairs 1 and 2 has both laths, as the claim says, but it is not
	// known which one.
	either := mend.Yard{Chairs: []mend.Chair{chair(0, 1, 0, 0), chair(0, 0, 2, 1), chair(0, 0, 1, 2)}, Claims: []mend.Range{to(1, 7)}}
	// As before, with one more canvas, so that both can be tried.
	both := copied(either)
	both.Chairs = append(both.Chairs, chair(0, 1, 0, 0))
	// The chair 0 is whole, or its canvas fits the laths of the chair 1.
	whole := mend.Yard{Chairs: []mend.Chair{chair(0, 1, 2, 1), chair(0, 0, 1, 0)}}
	for _, x := range []struct {
		y    mend.Yard
		want mend.Range
		many int
	}{
		{either, to(1, 1), 0}, {without(either, list(0)), to(0, 1), 0}, {both, to(1, 2), 1}, {without(both, list(0)), to(0, 2), 0}, {whole, to(1, 1), 1},
		{mend.Yard{}, to(0, 0), 0},
		{mend.Yard{Chairs: []mend.Chair{chair(0, 2, 2, 2)}}, to(0, 1), 0},
		{mend.Yard{Chairs: []mend.Chair{chair(0, 2, 2, 2), chair(0, 2, 2, 2)}, Claims: []mend.Range{to(2, 2)}}, to(2, 2), 2},
		{mend.Yard{Chairs: []mend.Chair{chair(0, 2, 2, 2), chair(0, 2, 2, 2)}, Claims: []mend.Range{to(1, 2)}}, to(1, 2), 1},
		{mend.Yard{Chairs: []mend.Chair{chair(0, 2, 2, 2), chair(0, 2, 2, 2)}, Claims: []mend.Range{to(0, 0)}}, to(0, 0), 0},
	} {
		if r := bounds(t, x.y); r != x.want {
			t.Errorf("Bounds of %v: %v", x.y, r)
		}
		if l, n := sure(t, x.y); n != x.many || !isPairing(l, len(x.y.Chairs)) || !mend.ProveSure(x.y, l, n) {
			t.Errorf("Sure of %v: %v, %d", x.y, l, n)
		}
	}
	if !mend.ProveSure(both, pairs(0, 1, 2, 3), 1) || mend.ProveSure(both, pairs(0, 1), 1) || mend.ProveSure(both, pairs(2, 3), 1) {
		t.Error("ProveSure with both canvases")
	}
}

// P7.6 by hand: several sets of the same length, claims that are false alone, and
// claims that are false only together.
func TestFirstAndLeaveByHand(t *testing.T) {
	for _, x := range []struct {
		y     mend.Yard
		first int
		e     api.Errno
		leave []int
	}{
		{example(), 0, api.ErrNone, nil},
		{example(to(0, 7), to(2, 3)), 0, api.ErrNone, nil},
		{example(to(2, 2), to(0, 2)), 0, api.ErrNone, nil},
		{example(to(0, 1)), 0, api.OK, list(0)},
		{example(to(4, 7)), 0, api.OK, list(0)},
		{example(to(2, 3), to(4, 7)), 1, api.OK, list(1)},
		{example(to(2, 2), to(3, 3)), 1, api.OK, list(0)},
		{example(to(2, 2), to(3, 3), to(2, 3)), 1, api.OK, list(0)},
		{example(to(2, 2), to(3, 3), to(2, 2)), 1, api.OK, list(1)},
		{example(to(3, 3), to(2, 3), to(2, 2)), 2, api.OK, list(0)},
		{example(to(0, 0), to(1, 1), to(7, 7)), 0, api.OK, list(0, 1, 2)},
		{example(to(0, 0), to(3, 3), to(2, 2)), 0, api.OK, list(0, 1)},
		{example(to(3, 3), to(0, 0), to(2, 2)), 1, api.OK, list(0, 1)},
		{example(to(3, 3), to(2, 2), to(0, 1)), 1, api.OK, list(0, 2)},
		{example(to(2, 2), to(3, 3), to(2, 2), to(3, 3), to(3, 3)), 1, api.OK, list(0, 2)},
		{example(to(0, 1), to(0, 1), to(4, 4), to(5, 5), to(6, 7)), 0, api.OK, list(0, 1, 2, 3, 4)},
		{mend.Yard{Claims: []mend.Range{to(0, 0), to(1, 7), to(0, 7)}}, 1, api.OK, list(1)},
	} {
		if n, e := mend.First(x.y); n != x.first || e != x.e {
			t.Errorf("First of %v: %d, %v", x.y, n, e)
		}
		if l := leave(t, x.y); !slices.Equal(l, x.leave) {
			t.Errorf("Leave of %v: %v", x.y, l)
		}
	}
}

// P7.1: Play and ProveTruth, of truths and of lists that are near them.
func TestPlay(t *testing.T) {
	met := map[api.Errno]int{}
	proved := map[bool]int{}
	eachYard(t, func(t *testing.T, y mend.Yard, rnd *rand.Rand) {
		for range 8 {
			truth := someTruth(rnd, y)
			most := mostOf(y, truth)
			if n := play(t, y, truth); n != most {
				t.Errorf("Play of %v, %v: %d, not %d", y, truth, n, most)
			}
			want := areRight(y.Claims, most)
			proved[want]++
			if mend.ProveTruth(y, truth) != want {
				t.Errorf("ProveTruth of %v, %v is not %v", y, truth, want)
			}
			for _, other := range nearTruths(rnd, truth) {
				n, e := mend.Play(y, other)
				met[e]++
				is := isTruth(y, other)
				if is != (e == api.OK) || !is && (e != api.ErrRange || n != 0 || mend.ProveTruth(y, other)) {
					t.Errorf("Play of %v, %v: %d, %v", y, other, n, e)
				}
			}
		}
	})
	atLeast(t, met[api.OK], 500, "results")
	atLeast(t, met[api.ErrRange], 5000, "errors")
	atLeast(t, proved[true], 1000, "truths of yards")
	atLeast(t, proved[false], 500, "truths in which a claim is not right")
}

// nearTruths returns lists of which one part, or the length, is another one.
func nearTruths(rnd *rand.Rand, truth []mend.Parts) [][]mend.Parts {
	out := [][]mend.Parts{append(slices.Clone(truth), mend.Parts{}), append(slices.Clone(truth), truth...)}
	if len(truth) == 0 {
		return out[:1]
	}
	out = append(out, truth[:len(truth)-1], truth[1:], nil)
	for _, by := range []int{-2, -1, 1, 2, 256, 1 << 32} {
		other := slices.Clone(truth)
		other[rnd.Intn(len(truth))][rnd.Intn(3)] += by
		out = append(out, other)
	}
	return out
}

func isTruth(y mend.Yard, truth []mend.Parts) bool {
	return len(truth) == len(y.Chairs) && !slices.ContainsFunc(subsets(len(truth)), func(l []int) bool {
		return len(l) == 1 && !slices.Contains(allParts(y.Chairs[l[0]].Parts), truth[l[0]])
	})
}

// P7.2: Pairs, and ProvePairs of all pairings.
func TestPairs(t *testing.T) {
	met := map[bool]int{}
	eachYard(t, func(t *testing.T, y mend.Yard, rnd *rand.Rand) {
		truth := someTruth(rnd, y)
		l, most := paired(t, y, truth), mostOf(y, truth)
		if !isPairing(l, len(y.Chairs)) || makes(y, truth, l) != most {
			t.Errorf("Pairs of %v, %v: %v", y, truth, l)
		}
		if !mend.ProvePairs(y, truth, l, most) || mend.ProvePairs(y, truth, l, most+1) {
			t.Errorf("ProvePairs of %v, %v, %v", y, truth, l)
		}
		for _, other := range allPairings(len(y.Chairs)) {
			rnd.Shuffle(len(other), func(i, j int) { other[i], other[j] = other[j], other[i] })
			many := makes(y, truth, other)
			met[many == most]++
			if !mend.ProvePairs(y, truth, other, many) || !mend.ProvePairs(y, truth, other, many-1) || mend.ProvePairs(y, truth, other, many+1) {
				t.Errorf("ProvePairs of %v, %v, %v", y, truth, other)
			}
			for _, bad := range nearPairings(rnd, other) {
				if is := isPairing(bad, len(y.Chairs)); mend.ProvePairs(y, truth, bad, 0) != is || mend.ProveSure(y, bad, 0) != (is && hasTruth(t, y)) {
					t.Errorf("ProvePairs, ProveSure of %v, %v, %v are not %v", y, truth, bad, is)
				}
			}
		}
	})
	atLeast(t, met[true], 1000, "pairings that make the most chairs")
	atLeast(t, met[false], 1000, "pairings that make fewer")
}

// nearPairings returns lists of which one number is another one.
func nearPairings(rnd *rand.Rand, l []mend.Pair) [][]mend.Pair {
	if len(l) == 0 || rnd.Intn(8) > 0 {
		return nil
	}
	var out [][]mend.Pair
	for _, by := range []int{-9, -1, 1, 2, 8, 64, 256} {
		other, turned := slices.Clone(l), slices.Clone(l)
		at := rnd.Intn(len(l))
		other[at].A += by
		turned[at].B += by
		out = append(out, other, turned)
	}
	turned := slices.Clone(l)
	turned[0].A, turned[0].B = turned[0].B, turned[0].A
	return append(out, turned, append(slices.Clone(l), l[0]))
}

// P7.3: Berge, and ProveBerge of all proofs.
func TestBerge(t *testing.T) {
	met := map[bool]int{}
	eachYard(t, func(t *testing.T, y mend.Yard, rnd *rand.Rand) {
		truth := someTruth(rnd, y)
		proof, bound := berge(t, y, truth)
		most := mostOf(y, truth)
		if bound != most || !slices.ContainsFunc(allProofs(truth), func(l []int) bool { return slices.Equal(l, proof) }) || boundOf(y, truth, proof) != most {
			t.Errorf("Berge of %v, %v: %v, %d, not %d", y, truth, proof, bound, most)
		}
		for _, l := range subsets(len(truth)) {
			is := !slices.ContainsFunc(l, func(chair int) bool { return isWhole(truth[chair]) })
			met[is]++
			if !is {
				if mend.ProveBerge(y, truth, l, 99) {
					t.Errorf("ProveBerge of %v, %v, %v, with a whole chair", y, truth, l)
				}
				continue
			}
			n := boundOf(y, truth, l)
			if !mend.ProveBerge(y, truth, l, n) || !mend.ProveBerge(y, truth, l, n+1) || mend.ProveBerge(y, truth, l, n-1) {
				t.Errorf("ProveBerge of %v, %v, %v, %d", y, truth, l, n)
			}
		}
	})
	atLeast(t, met[true], 1000, "proofs")
	atLeast(t, met[false], 1000, "lists with a whole chair")
}

// P7.4 and P7.5: Bounds and Sure, and ProveSure of some pairings.
func TestBoundsAndSure(t *testing.T) {
	met := map[api.Errno]int{}
	less := 0
	eachYard(t, func(t *testing.T, y mend.Yard, rnd *rand.Rand) {
		own := ownOf(y)
		want := api.OK
		if len(own) == 0 {
			want = api.ErrFalse
		}
		met[want]++
		expect(t, bounding, y, nil, want)
		expect(t, relying, y, nil, want)
		if want != api.OK {
			if mend.ProveSure(y, nil, 0) || mend.ProveSure(y, nil, -1) {
				t.Errorf("ProveSure of %v", y)
			}
			return
		}
		r, number := bounds(t, y), sureNumberOf(y, own)
		if r != boundsOf(own) {
			t.Errorf("Bounds of %v: %v, not %v", y, r, boundsOf(own))
		}
		l, n := sure(t, y)
		if n != number || !isPairing(l, len(y.Chairs)) || sureOf(y, own, l) < number {
			t.Errorf("Sure of %v: %v, %d, not %d", y, l, n, number)
		}
		if n < r.Lo {
			less++
		}
		all := allPairings(len(y.Chairs))
		for range 8 {
			other := all[rnd.Intn(len(all))]
			many := sureOf(y, own, other)
			if !mend.ProveSure(y, other, many) || !mend.ProveSure(y, other, many-1) || mend.ProveSure(y, other, many+1) {
				t.Errorf("ProveSure of %v, %v, %d", y, other, many)
			}
		}
	})
	atLeast(t, met[api.OK], 250, "yards that have a truth")
	atLeast(t, met[api.ErrFalse], 100, "yards that have none")
	atLeast(t, less, 5, "yards whose sure number is below the bounds")
}

// P7.6: First and Leave.
func TestFirstAndLeave(t *testing.T) {
	met := map[int]int{}
	eachYard(t, func(t *testing.T, y mend.Yard, rnd *rand.Rand) {
		all := allSeen(y)
		want, wantError := firstOf(all, y.Claims), api.OK
		if want < 0 {
			want, wantError = 0, api.ErrNone
		}
		if n, e := mend.First(y); n != want || e != wantError {
			t.Errorf("First of %v: %d, %v", y, n, e)
		}
		l := leave(t, y)
		met[len(l)]++
		if !slices.Equal(l, leaveOf(all, y.Claims)) {
			t.Errorf("Leave of %v: %v, not %v", y, l, leaveOf(all, y.Claims))
		}
	})
	for many := range 3 {
		atLeast(t, met[many], 20, "smallest sets of one length")
	}
}

// widest is the widest yard: as many chairs, parts that are not known, and claims
// as there can be.
func widest(claims ...mend.Range) mend.Yard {
	return mend.Yard{Chairs: []mend.Chair{chair(4, 1, 2, 0), chair(5, 0, 1, 2), chair(5, 2, 1, 2), chair(6, 1, 0, 1), chair(4, 2, 0, 1), chair(6, 1, 1, 2), chair(5, 2, 2, 0)}, Fit: 1, Claims: claims}
}

func TestWidestYard(t *testing.T) {
	y := widest(to(2, 5), to(0, 6), to(3, 7), to(3, 4), to(1, 5))
	own := ownOf(y)
	if r := bounds(t, y); r != boundsOf(own) || r != to(3, 4) {
		t.Errorf("Bounds: %v, not %v", r, boundsOf(own))
	}
	l, n := sure(t, y)
	if n != sureNumberOf(y, own) || sureOf(y, own, l) < n {
		t.Errorf("Sure: %v, %d, not %d", l, n, sureNumberOf(y, own))
	}
	all := allSeen(y)
	for _, claims := range [][]mend.Range{
		{to(2, 5), to(0, 1), to(3, 7), to(3, 4), to(0, 0)},
		{to(7, 7), to(4, 4), to(2, 2), to(4, 5), to(1, 2)},
		{to(5, 7), to(6, 6), to(7, 7), to(0, 0), to(3, 3)},
	} {
		y.Claims = claims
		if l := leave(t, y); !slices.Equal(l, leaveOf(all, claims)) {
			t.Errorf("Leave of %v: %v, not %v", claims, l, leaveOf(all, claims))
		}
		if n, e := mend.First(y); n != firstOf(all, claims) || e != api.OK {
			t.Errorf("First of %v: %d, %v", claims, n, e)
		}
	}
}
