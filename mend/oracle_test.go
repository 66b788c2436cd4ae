package mend_test

import (
	"math/rand"
	"slices"
	"testing"

	"foreshore/api"
	"foreshore/mend"
)

// The oracle: what the chapter defines, computed from all truths, all pairings and
// all proofs by the words of the definitions alone, without anything of package
// mend but its types.

// allTruths returns all truths, whatever the claims are.
func allTruths(y mend.Yard) [][]mend.Parts {
	out := [][]mend.Parts{{}}
	for _, c := range y.Chairs {
		var longer [][]mend.Parts
		for _, truth := range out {
			for _, p := range allParts(c.Parts) {
				longer = append(longer, append(slices.Clone(truth), p))
			}
		}
		out = longer
	}
	return out
}

// allParts returns what the parts of a chair can be.
func allParts(known mend.Parts) []mend.Parts {
	var out []mend.Parts
	for code := range 8 {
		p := mend.Parts{code & 1, code >> 1 & 1, code >> 2 & 1}
		if (known[0] == 2 || known[0] == p[0]) && (known[1] == 2 || known[1] == p[1]) && (known[2] == 2 || known[2] == p[2]) {
			out = append(out, p)
		}
	}
	return out
}

func isWhole(p mend.Parts) bool { return p[0] == 1 && p[1] == 1 && p[2] == 1 }

// fit reports whether two chairs of a truth are broken, and fit.
func fit(y mend.Yard, truth []mend.Parts, a, b int) bool {
	if isWhole(truth[a]) || isWhole(truth[b]) {
		return false
	}
	if d := y.Chairs[a].Size - y.Chairs[b].Size; d > y.Fit || -d > y.Fit {
		return false
	}
	for part := range 3 {
		if truth[a][part] != 1 && truth[b][part] != 1 {
			return false
		}
	}
	return true
}

// allPairings returns all pairings of so many chairs.
func allPairings(chairs int) [][]mend.Pair {
	out := [][]mend.Pair{nil}
	for b := range chairs {
		for _, pairs := range slices.Clone(out) {
			for a := range b {
				if !isPaired(pairs, a) {
					out = append(out, append(slices.Clone(pairs), mend.Pair{A: a, B: b}))
				}
			}
		}
	}
	return out
}

func isPaired(pairs []mend.Pair, chair int) bool {
	return slices.ContainsFunc(pairs, func(p mend.Pair) bool { return p.A == chair || p.B == chair })
}

// isPairing reports whether a list is a pairing of so many chairs.
func isPairing(pairs []mend.Pair, chairs int) bool {
	for i, p := range pairs {
		if p.A < 0 || p.B >= chairs || p.A >= p.B || isPaired(pairs[:i], p.A) || isPaired(pairs[:i], p.B) {
			return false
		}
	}
	return true
}

func wholeIn(truth []mend.Parts) int {
	many := 0
	for _, p := range truth {
		if isWhole(p) {
			many++
		}
	}
	return many
}

// makes returns what a pairing makes in a truth.
func makes(y mend.Yard, truth []mend.Parts, pairs []mend.Pair) int {
	many := wholeIn(truth)
	for _, p := range pairs {
		if fit(y, truth, p.A, p.B) {
			many++
		}
	}
	return many
}

// mostOf returns the most chairs in a truth.
func mostOf(y mend.Yard, truth []mend.Parts) int {
	most := 0
	for _, pairs := range allPairings(len(y.Chairs)) {
		most = max(most, makes(y, truth, pairs))
	}
	return most
}

// brokenIn returns the broken chairs of a truth.
func brokenIn(truth []mend.Parts) []int {
	var out []int
	for chair, p := range truth {
		if !isWhole(p) {
			out = append(out, chair)
		}
	}
	return out
}

// groupSizes returns how many chairs each of the groups has that a proof leaves.
func groupSizes(y mend.Yard, truth []mend.Parts, proof []int) []int {
	gone := slices.Clone(proof)
	var visit func(chair int) int
	visit = func(chair int) int {
		gone = append(gone, chair)
		many := 1
		for _, other := range brokenIn(truth) {
			if !slices.Contains(gone, other) && fit(y, truth, chair, other) {
				many += visit(other)
			}
		}
		return many
	}
	var out []int
	for _, chair := range brokenIn(truth) {
		if !slices.Contains(gone, chair) {
			out = append(out, visit(chair))
		}
	}
	return out
}

// boundOf returns the bound of a proof.
func boundOf(y mend.Yard, truth []mend.Parts, proof []int) int {
	twice := len(brokenIn(truth)) + len(proof)
	for _, many := range groupSizes(y, truth, proof) {
		twice -= many % 2
	}
	return wholeIn(truth) + twice/2
}

// allProofs returns all proofs in a truth.
func allProofs(truth []mend.Parts) [][]int {
	broken := brokenIn(truth)
	var out [][]int
	for _, l := range subsets(len(broken)) {
		proof := slices.Clone(l)
		for i, at := range l {
			proof[i] = broken[at]
		}
		out = append(out, proof)
	}
	return out
}

// subsets returns all increasing lists of numbers from 0 to n-1, the shorter
// ones first, those of one length in their lexicographic order.
func subsets(n int) [][]int {
	var out [][]int
	for code := range 1 << n {
		var l []int
		for i := range n {
			if code>>i&1 == 1 {
				l = append(l, i)
			}
		}
		out = append(out, l)
	}
	slices.SortFunc(out, func(a, b []int) int {
		if len(a) != len(b) {
			return len(a) - len(b)
		}
		return slices.Compare(a, b)
	})
	return out
}

// seen is a truth with the most chairs in it.
type seen struct {
	truth []mend.Parts
	most  int
}

// allSeen returns all truths, whatever the claims are.
func allSeen(y mend.Yard) []seen {
	var out []seen
	for _, truth := range allTruths(y) {
		out = append(out, seen{truth, mostOf(y, truth)})
	}
	return out
}

func areRight(claims []mend.Range, most int) bool {
	return !slices.ContainsFunc(claims, func(r mend.Range) bool { return most < r.Lo || most > r.Hi })
}

// rightIn returns those in which all claims are right, but for the ones that are
// left out.
func rightIn(all []seen, claims []mend.Range, left ...int) []seen {
	var kept []mend.Range
	for i, r := range claims {
		if !slices.Contains(left, i) {
			kept = append(kept, r)
		}
	}
	var out []seen
	for _, s := range all {
		if areRight(kept, s.most) {
			out = append(out, s)
		}
	}
	return out
}

// ownOf returns the truths of the yard.
func ownOf(y mend.Yard) []seen { return rightIn(allSeen(y), y.Claims) }

// boundsOf returns the bounds of the most chairs.
func boundsOf(own []seen) mend.Range {
	r := to(own[0].most, own[0].most)
	for _, s := range own {
		r = to(min(r.Lo, s.most), max(r.Hi, s.most))
	}
	return r
}

// sureOf returns the greatest number of which a pairing is sure.
func sureOf(y mend.Yard, own []seen, pairs []mend.Pair) int {
	least := makes(y, own[0].truth, pairs)
	for _, s := range own {
		least = min(least, makes(y, s.truth, pairs))
	}
	return least
}

// sureNumberOf returns the sure number.
func sureNumberOf(y mend.Yard, own []seen) int {
	most := 0
	for _, pairs := range allPairings(len(y.Chairs)) {
		most = max(most, sureOf(y, own, pairs))
	}
	return most
}

// firstOf returns the first wrong claim, or -1.
func firstOf(all []seen, claims []mend.Range) int {
	for n := range claims {
		if len(rightIn(all, claims[:n+1])) == 0 {
			return n
		}
	}
	return -1
}

// leaveOf returns the smallest set.
func leaveOf(all []seen, claims []mend.Range) []int {
	for _, l := range subsets(len(claims)) {
		if len(rightIn(all, claims, l...)) > 0 {
			return l
		}
	}
	panic("no truth, without any claim")
}

func list(l ...int) []int { return l }

func to(low, high int) mend.Range { return mend.Range{Lo: low, Hi: high} }

func chair(size, canvas, left, right int) mend.Chair {
	return mend.Chair{Size: size, Parts: mend.Parts{canvas, left, right}}
}

func pairs(l ...int) []mend.Pair {
	var out []mend.Pair
	for i := 0; i < len(l); i += 2 {
		out = append(out, mend.Pair{A: l[i], B: l[i+1]})
	}
	return out
}

// example is the yard of the chapter's examples, with claims.
func example(claims ...mend.Range) mend.Yard {
	return mend.Yard{
		Chairs: []mend.Chair{chair(4, 1, 0, 0), chair(5, 0, 1, 1), chair(5, 0, 1, 2), chair(9, 1, 1, 1), chair(4, 1, 0, 0)},
		Fit:    1,
		Claims: claims,
	}
}

// truthWith is the truth of the example in which the right lath of the chair 2 is
// so.
func truthWith(lath int) []mend.Parts {
	return []mend.Parts{{1, 0, 0}, {0, 1, 1}, {0, 1, lath}, {1, 1, 1}, {1, 0, 0}}
}

// known returns the yard of chairs of one size of which all is known, with its
// truth.
func known(l ...mend.Parts) (mend.Yard, []mend.Parts) {
	var y mend.Yard
	for _, p := range l {
		y.Chairs = append(y.Chairs, mend.Chair{Parts: p})
	}
	return y, l
}

// someYard returns a yard in which many chairs fit, and near which most of its
// claims are, so that many yards have a truth, and many have none.
func someYard(rnd *rand.Rand) mend.Yard {
	y := mend.Yard{Fit: rnd.Intn(4)}
	if rnd.Intn(4) == 0 {
		y.Fit = rnd.Intn(api.MaxMendSize + 1)
	}
	low, spread := rnd.Intn(api.MaxMendSize+1), 1+rnd.Intn(4)
	for range min(rnd.Intn(api.MaxMendChairs+2), api.MaxMendChairs) {
		y.Chairs = append(y.Chairs, mend.Chair{Size: min(low+rnd.Intn(spread), api.MaxMendSize), Parts: someParts(rnd)})
	}
	if len(y.Chairs) > 0 {
		for range rnd.Intn(7) {
			y.Chairs[rnd.Intn(len(y.Chairs))].Parts[rnd.Intn(3)] = 2
		}
	}
	most := mostOf(y, someTruth(rnd, y))
	for range rnd.Intn(api.MaxMendClaims + 1) {
		y.Claims = append(y.Claims, someClaim(rnd, most))
	}
	return y
}

// someParts returns parts of which, in most cases, one or two are whole.
func someParts(rnd *rand.Rand) mend.Parts {
	if rnd.Intn(8) == 0 {
		return mend.Parts{1, 1, 1}
	}
	var p mend.Parts
	for range 1 + rnd.Intn(3) {
		p[rnd.Intn(3)] = 1
	}
	return p
}

// someTruth returns a truth of a yard, whatever its claims are.
func someTruth(rnd *rand.Rand, y mend.Yard) []mend.Parts {
	var truth []mend.Parts
	for _, c := range y.Chairs {
		l := allParts(c.Parts)
		truth = append(truth, l[rnd.Intn(len(l))])
	}
	return truth
}

// someClaim returns a claim that is right for the number, or is not by one or two.
func someClaim(rnd *rand.Rand, most int) mend.Range {
	low := most - rnd.Intn(2)
	if rnd.Intn(3) == 0 {
		low += rnd.Intn(5) - 2
	}
	return to(within(low), within(low+rnd.Intn(3)))
}

// within returns the valid number of a claim that is next to a number.
func within(n int) int { return min(max(n, 0), api.MaxMendChairs) }

// eachYard calls the function with many yards, each with a generator of its own
// for what else is chosen.
func eachYard(t *testing.T, f func(t *testing.T, y mend.Yard, rnd *rand.Rand)) {
	t.Helper()
	for seed := range 500 {
		rnd := rand.New(rand.NewSource(int64(seed)))
		f(t, someYard(rnd), rnd)
		if t.Failed() {
			return
		}
	}
}

// eachTrue is eachYard for the yards that have a truth.
func eachTrue(t *testing.T, f func(t *testing.T, y mend.Yard, rnd *rand.Rand)) {
	t.Helper()
	met := 0
	eachYard(t, func(t *testing.T, y mend.Yard, rnd *rand.Rand) {
		if hasTruth(t, y) {
			met++
			f(t, y, rnd)
		}
	})
	atLeast(t, met, 250, "yards that have a truth")
}

// atLeast wants that a test has met enough of what it is about.
func atLeast(t *testing.T, met, wanted int, what string) {
	t.Helper()
	if !t.Failed() && met < wanted {
		t.Errorf("only %d %s", met, what)
	}
}

// hasTruth reports what Bounds says of a valid yard.
func hasTruth(t *testing.T, y mend.Yard) bool {
	t.Helper()
	_, e := mend.Bounds(y)
	if e != api.OK && e != api.ErrFalse {
		t.Fatalf("Bounds of %v: %v", y, e)
	}
	return e == api.OK
}

// The calls of a yard of which the test says that they have a result.

func play(t *testing.T, y mend.Yard, truth []mend.Parts) int {
	t.Helper()
	n, e := mend.Play(y, truth)
	if e != api.OK {
		t.Fatalf("Play of %v, %v: %v", y, truth, e)
	}
	return n
}

func paired(t *testing.T, y mend.Yard, truth []mend.Parts) []mend.Pair {
	t.Helper()
	l, e := mend.Pairs(y, truth)
	if e != api.OK {
		t.Fatalf("Pairs of %v, %v: %v", y, truth, e)
	}
	return l
}

func berge(t *testing.T, y mend.Yard, truth []mend.Parts) ([]int, int) {
	t.Helper()
	l, n, e := mend.Berge(y, truth)
	if e != api.OK {
		t.Fatalf("Berge of %v, %v: %v", y, truth, e)
	}
	return l, n
}

func bounds(t *testing.T, y mend.Yard) mend.Range {
	t.Helper()
	r, e := mend.Bounds(y)
	if e != api.OK {
		t.Fatalf("Bounds of %v: %v", y, e)
	}
	return r
}

func sure(t *testing.T, y mend.Yard) ([]mend.Pair, int) {
	t.Helper()
	l, n, e := mend.Sure(y)
	if e != api.OK {
		t.Fatalf("Sure of %v: %v", y, e)
	}
	return l, n
}

func leave(t *testing.T, y mend.Yard) []int {
	t.Helper()
	l, e := mend.Leave(y)
	if e != api.OK {
		t.Fatalf("Leave of %v: %v", y, e)
	}
	return l
}

// copied returns a yard that shares no memory with the given one.
func copied(y mend.Yard) mend.Yard {
	return mend.Yard{Chairs: slices.Clone(y.Chairs), Fit: y.Fit, Claims: slices.Clone(y.Claims)}
}

// without returns the yard without the claims of these numbers.
func without(y mend.Yard, left []int) mend.Yard {
	x := copied(y)
	x.Claims = nil
	for i, r := range y.Claims {
		if !slices.Contains(left, i) {
			x.Claims = append(x.Claims, r)
		}
	}
	return x
}
