package mend

import (
	"iter"
	"slices"

	"foreshore/api"
)

// What a part can be.
const (
	broken  = 0
	whole   = 1
	unknown = 2
)

// parts is how many parts a chair has.
const parts = len(Parts{})

// truth has the parts of each chair, and broken ones for chairs that the yard does
// not have.
type truth [api.MaxMendChairs]Parts

// work is a yard at work: the most pairs of chairs that are left, as far as they
// were asked for, and what the truths that are asked about come to.
type work struct {
	Yard
	pairs map[rest][]Pair
	lots  []lot
}

// question is what is asked of a truth, about a pairing or about nothing.
type question struct {
	ask   func(w work, l lot, about []Pair) int
	about []Pair
}

// start checks a yard.
func start(y Yard) (work, api.Errno) {
	switch {
	case len(y.Chairs) > api.MaxMendChairs || len(y.Claims) > api.MaxMendClaims:
		return work{}, api.ErrLimit
	case !y.isValid():
		return work{}, api.ErrArg
	case y.unknownParts() > api.MaxMendUnknown:
		return work{}, api.ErrLimit
	}
	return work{Yard: y, pairs: map[rest][]Pair{}}, api.OK
}

// startWith is start for one truth, whether the claims are right in it or not.
func startWith(y Yard, list []Parts) (work, lot, api.Errno) {
	w, e := start(y)
	if e != api.OK {
		return work{}, lot{}, e
	}
	t, ok := w.read(list)
	if !ok {
		return work{}, lot{}, api.ErrRange
	}
	return w, w.lot(t), api.OK
}

// startAll is start for all truths, whether the claims are right in them or not.
func startAll(y Yard) (work, api.Errno) {
	w, e := start(y)
	if e != api.OK {
		return work{}, e
	}
	for t := range w.truths() {
		w.lots = append(w.lots, w.lot(t))
	}
	return w, api.OK
}

// startOwn is start for the truths of the yard.
func startOwn(y Yard) (work, api.Errno) {
	w, e := startAll(y)
	if e != api.OK {
		return work{}, e
	}
	w.lots = slices.DeleteFunc(w.lots, func(l lot) bool { return !w.agrees(l, y.Claims) })
	if len(w.lots) == 0 {
		return work{}, api.ErrFalse
	}
	return w, api.OK
}

// isValid reports whether the yard is valid, however many parts are not known.
func (y Yard) isValid() bool {
	return size().has(y.Fit) && all(y.Chairs, Chair.isValid) && all(y.Claims, Range{0, api.MaxMendChairs}.includes)
}

func (c Chair) isValid() bool {
	return size().has(c.Size) && all(c.Parts[:], Range{broken, unknown}.has)
}

func (y Yard) unknownParts() int {
	many := 0
	for _, c := range y.Chairs {
		for _, part := range c.Parts {
			if part == unknown {
				many++
			}
		}
	}
	return many
}

// canBe reports whether what is known of a part allows that it is so.
func canBe(part, known int) bool {
	return Range{broken, whole}.has(part) && (known == unknown || known == part)
}

// truths yields the truths, whether the claims are right in them or not.
func (w work) truths() iter.Seq[truth] {
	return func(yield func(truth) bool) {
		var t truth
		var choose func(at int) bool
		choose = func(at int) bool {
			if at == parts*len(w.Chairs) {
				return yield(t)
			}
			chair, place := at/parts, at%parts
			for part := broken; part <= whole; part++ {
				if !canBe(part, w.Chairs[chair].Parts[place]) {
					continue
				}
				t[chair][place] = part
				if !choose(at + 1) {
					return false
				}
			}
			return true
		}
		choose(0)
	}
}

// read returns the truth that the list gives, if it gives one.
func (w work) read(list []Parts) (truth, bool) {
	if len(list) != len(w.Chairs) {
		return truth{}, false
	}
	var t truth
	for chair, p := range list {
		for place, part := range p {
			if !canBe(part, w.Chairs[chair].Parts[place]) {
				return truth{}, false
			}
		}
		t[chair] = p
	}
	return t, true
}

// lot returns what the truth comes to.
func (w work) lot(t truth) lot {
	var l lot
	for chair := range len(w.Chairs) {
		if t[chair].areWhole() {
			l.whole++
			continue
		}
		for _, other := range l.broken.chairs.list() {
			if w.near(other, chair) && t[other].joined(t[chair]).areWhole() {
				l.broken.join(other, chair)
			}
		}
		l.broken.chairs |= only(chair)
	}
	return l
}

// near reports whether the sizes of two chairs are near to each other.
func (w work) near(a, b int) bool {
	return Range{-w.Fit, w.Fit}.has(w.Chairs[a].Size - w.Chairs[b].Size)
}

func (p Parts) areWhole() bool { return p == Parts{whole, whole, whole} }

// joined returns the better one of each part.
func (p Parts) joined(q Parts) Parts {
	for place, part := range q {
		p[place] = max(p[place], part)
	}
	return p
}

// most returns the most chairs.
func (w work) most(l lot, _ []Pair) int { return l.whole + len(w.mostPairs(l.broken)) }

// made returns what the pairing makes.
func (w work) made(l lot, pairs []Pair) int {
	many := l.whole
	for _, p := range pairs {
		if l.broken.fits[p.A].has(p.B) {
			many++
		}
	}
	return many
}

// mostPairs returns as many pairs as possible of the chairs that are left, each of
// two that fit.
func (w work) mostPairs(r rest) []Pair {
	if r.fits == (byChair{}) {
		return nil
	}
	// What is left is the same after many choices, and in many truths.
	if known, met := w.pairs[r]; met {
		return known
	}
	a := r.chairs.first()
	best := w.mostPairs(r.without(only(a)))
	for _, b := range r.fits[a].list() {
		more := w.mostPairs(r.without(only(a) | only(b)))
		if len(more)+1 > len(best) {
			best = append([]Pair{{a, b}}, more...)
		}
	}
	w.pairs[r] = best
	return best
}

// isPairing reports whether the list is a pairing.
func (w work) isPairing(pairs []Pair) bool {
	var taken set
	for _, p := range pairs {
		if p.A < 0 || p.A >= p.B || p.B >= len(w.Chairs) || taken.has(p.A) || taken.has(p.B) {
			return false
		}
		taken |= only(p.A) | only(p.B)
	}
	return true
}

// bounds returns the bounds of what is asked in all the truths.
func (w work) bounds(q question) Range {
	var answers []int
	for _, l := range w.lots {
		answers = append(answers, q.ask(w, l, q.about))
	}
	return Range{minimum(answers[0], answers...), slices.Max(answers)}
}

// sureOf returns the greatest number of which the pairing is sure.
func (w work) sureOf(pairs []Pair) int { return w.bounds(question{work.made, pairs}).Lo }

// surest returns the pairing that is sure of the most chairs, and their number.
func (w work) surest() (best []Pair, many int) {
	for pairs := range w.atBest().pairings() {
		if n := w.sureOf(pairs); n > many {
			best, many = pairs, n
		}
	}
	return best, many
}

// atBest returns all chairs, with what fits them in some of the truths: other
// pairs never make a chair.
func (w work) atBest() rest {
	r := rest{chairs: upTo(len(w.Chairs))}
	for _, l := range w.lots {
		for chair, fits := range l.broken.fits {
			r.fits[chair] |= fits
		}
	}
	return r
}

// agrees reports whether the claims are all right.
func (w work) agrees(l lot, claims []Range) bool {
	most := w.most(l, nil)
	return all(claims, func(r Range) bool { return r.has(most) })
}

// allows reports whether the claims are all right in one of the truths.
func (w work) allows(claims []Range) bool {
	return slices.ContainsFunc(w.lots, func(l lot) bool { return w.agrees(l, claims) })
}

// smallestSet returns the smallest set of claims to leave out.
func (w work) smallestSet() set {
	return upTo(len(w.Claims)).smallest(func(left set) bool { return w.allows(w.without(left)) })
}

// without returns the claims that are not in the set.
func (w work) without(left set) []Range {
	var claims []Range
	for i, r := range w.Claims {
		if !left.has(i) {
			claims = append(claims, r)
		}
	}
	return claims
}

// size returns the range of sizes, and of how much they can differ.
func size() Range { return Range{0, api.MaxMendSize} }

func (r Range) has(n int) bool { return r.Lo <= n && n <= r.Hi }

// includes reports whether the other one is a range of numbers of this one.
func (r Range) includes(other Range) bool {
	return r.Lo <= other.Lo && other.Lo <= other.Hi && other.Hi <= r.Hi
}

func all[T any](list []T, holds func(T) bool) bool {
	for _, x := range list {
		if !holds(x) {
			return false
		}
	}
	return true
}

func minimum(first int, more ...int) int {
	for _, n := range more {
		first = min(first, n)
	}
	return first
}
