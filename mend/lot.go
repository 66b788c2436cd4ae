package mend

import (
	"iter"
	"slices"

	"foreshore/api"
)

// byChair has a set of chairs for each chair, and an empty one for chairs that are
// not there.
type byChair [api.MaxMendChairs]set

// rest are the broken chairs that are left, with what fits them.
type rest struct {
	chairs set
	fits   byChair
}

// lot is what a truth comes to: how many chairs are whole, and the broken ones.
type lot struct {
	whole  int
	broken rest
}

// join makes two chairs fit each other.
func (r *rest) join(a, b int) {
	r.fits[a] |= only(b)
	r.fits[b] |= only(a)
}

// without returns what is left when the chairs of the set are taken away.
func (r rest) without(s set) rest {
	r.chairs &^= s
	for chair := range r.fits {
		r.fits[chair] &^= s
		if s.has(chair) {
			r.fits[chair] = 0
		}
	}
	return r
}

// pairings yields the pairings of chairs that fit each other.
func (r rest) pairings() iter.Seq[[]Pair] {
	return func(yield func([]Pair) bool) {
		var choose func(r rest, pairs []Pair) bool
		choose = func(r rest, pairs []Pair) bool {
			if r.chairs == 0 {
				// A copy, because pairings with the same beginning can share memory.
				return yield(slices.Clone(pairs))
			}
			a := r.chairs.first()
			for _, b := range r.fits[a].list() {
				if !choose(r.without(only(a)|only(b)), append(pairs, Pair{a, b})) {
					return false
				}
			}
			return choose(r.without(only(a)), pairs)
		}
		choose(r, nil)
	}
}

// groups returns for each chair that is left its group.
func (r rest) groups() byChair {
	var g byChair
	for _, chair := range r.chairs.list() {
		g[chair] = only(chair)
	}
	for {
		wider := r.widened(g)
		if wider == g {
			return g
		}
		g = wider
	}
}

// widened adds to each set what fits the chairs that are in it.
func (r rest) widened(g byChair) byChair {
	for chair, group := range g {
		for _, other := range group.list() {
			g[chair] |= r.fits[other]
		}
	}
	return g
}

// oddGroups returns how many groups have an odd number of chairs.
func (r rest) oddGroups() int {
	odd := 0
	for chair, group := range r.groups() {
		// Each group is counted at its first chair alone.
		if group.size()%2 == 1 && group.first() == chair {
			odd++
		}
	}
	return odd
}

// read returns the proof that the list gives, if it gives one.
func (l lot) read(list []int) (set, bool) {
	var proof set
	for i, chair := range list {
		if i > 0 && list[i-1] >= chair || !l.broken.chairs.has(chair) {
			return 0, false
		}
		proof |= only(chair)
	}
	return proof, true
}

// bound returns the bound of the proof.
func (l lot) bound(proof set) int {
	left := l.broken.without(proof)
	return l.whole + (l.broken.chairs.size()+proof.size()-left.oddGroups())/2
}

// proof returns a proof whose bound is the most chairs; by the formula of Berge
// and Tutte there is one.
func (l lot) proof(most int) set {
	return l.broken.chairs.smallest(func(proof set) bool { return l.bound(proof) == most })
}
