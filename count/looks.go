package count

import "foreshore/api"

// wordBits is the number of truths of which a word of a set tells.
const wordBits = 64

// set has a bit for each truth, by its number in the list of all truths of a
// row: the truths that are left after some looks. A list would not do, because
// only arrays can be in a key.
type set [1 << api.MaxCountPlaces / wordBits]uint64

// asked is a part with the truths in which it is asked about.
type asked struct {
	part
	truths set
}

// looking is what the looks at the places of a row can tell about a part of it.
type looking struct {
	part
	// with has for each place the truths that have a chair there.
	with []set
	// equal has for each number the truths with so many chairs in the part.
	equal []set
	// looks has what was found out: most sets are left in several ways.
	looks map[asked]int
}

// beginLooking returns what the looks at the row can tell about the part, and
// the set of all truths of the row.
func (w work) beginLooking(p part) (looking, set) {
	l := looking{
		part:  p,
		with:  make([]set, len(w.Places)),
		equal: make([]set, p.to-p.from+2),
		looks: map[asked]int{},
	}
	var truths set
	for i, c := range w.truths {
		truths = truths.plus(i)
		n := w.chairsIn(c, p)
		l.equal[n] = l.equal[n].plus(i)
		for place := range len(w.Places) {
			if c[place] == 1 {
				l.with[place] = l.with[place].plus(i)
			}
		}
	}
	return l, truths
}

// needed returns the looks that are needed for the truths.
func (l looking) needed(truths set) int {
	key := asked{l.part, truths}
	n, ok := l.looks[key]
	if !ok {
		n = l.fewest(truths)
		l.looks[key] = n
	}
	return n
}

func (l looking) fewest(truths set) int {
	if l.isKnown(truths) {
		return 0
	}
	// Nothing is unknown any more after a look at each place.
	looks := len(l.with)
	for _, with := range l.with {
		yes, no := truths.and(with), truths.without(with)
		if yes == (set{}) || no == (set{}) {
			continue
		}
		looks = minimum(looks, 1+maximum(l.needed(yes), l.needed(no)))
	}
	return looks
}

// isKnown reports whether all the truths have the same number of chairs in the
// part.
func (l looking) isKnown(truths set) bool {
	for _, equal := range l.equal {
		if truths.without(equal) == (set{}) {
			return true
		}
	}
	return false
}

func (s set) plus(truth int) set {
	s[truth/wordBits] |= 1 << (truth % wordBits)
	return s
}

func (s set) and(t set) set {
	for i := range s {
		s[i] &= t[i]
	}
	return s
}

func (s set) without(t set) set {
	for i := range s {
		s[i] &^= t[i]
	}
	return s
}
