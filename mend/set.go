package mend

import (
	"iter"
	"math/bits"
)

// set has a bit for each number, of a chair or of a claim, that is in it.
type set uint8

func only(n int) set { return 1 << n }

// upTo returns the set of the numbers from 0 on that are below the end.
func upTo(end int) set { return only(end) - 1 }

func (s set) has(n int) bool { return n >= 0 && s>>n&1 == 1 }

func (s set) size() int { return bits.OnesCount8(uint8(s)) }

// first returns the smallest number of a set that is not empty.
func (s set) first() int { return bits.TrailingZeros8(uint8(s)) }

// list returns the numbers of the set as an increasing list.
func (s set) list() []int {
	var list []int
	for ; s != 0; s &^= only(s.first()) {
		list = append(list, s.first())
	}
	return list
}

// choices yields the sets of so many numbers of the set, in the lexicographic
// order of their lists.
func (s set) choices(many int) iter.Seq[set] {
	return func(yield func(set) bool) {
		var choose func(chosen, from set) bool
		choose = func(chosen, from set) bool {
			if chosen.size() == many {
				return yield(chosen)
			}
			for _, n := range from.list() {
				from &^= only(n)
				if !choose(chosen|only(n), from) {
					return false
				}
			}
			return true
		}
		choose(0, s)
	}
}

// smallest returns the shortest choice that holds, and of several ones the
// lexicographically first one; the caller knows that there is one.
func (s set) smallest(holds func(set) bool) set {
	var found set
search:
	for many := range s.size() + 1 {
		for choice := range s.choices(many) {
			if holds(choice) {
				found = choice
				break search
			}
		}
	}
	return found
}
