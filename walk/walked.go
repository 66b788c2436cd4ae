package walk

import (
	"iter"
	"slices"

	"foreshore/api"
)

const maxBorders = api.MaxWalkStretches - 1

// walked has how many chairs were carried over each border, to the right and to
// the left, and 0 for borders that the day does not have.
type walked [2 * maxBorders]int

// changes has the change of each stretch's number, and 0 for stretches that the
// day does not have, so that equal changes are equal arrays.
type changes [api.MaxWalkStretches]int

// every yields the walks, whether they explain the counts or not, in their
// lexicographic order.
func (w work) every() iter.Seq[walked] {
	return func(yield func(walked) bool) {
		var x walked
		var choose func(at int) bool
		choose = func(at int) bool {
			if at == 2*w.borders() {
				return yield(x)
			}
			for many := range api.MaxWalkCarry + 1 {
				x[at] = many
				if !choose(at + 1) {
					return false
				}
			}
			return true
		}
		choose(0)
	}
}

// explaining yields the walks that explain the counts, in the same order.
func (w work) explaining() iter.Seq[walked] {
	return func(yield func(walked) bool) {
		// There are many walks, but few changes that they make.
		known := map[changes]bool{}
		for x := range w.every() {
			c := x.changes()
			explained, met := known[c]
			if !met {
				explained = w.explains(c)
				known[c] = explained
			}
			if explained && !yield(x) {
				return
			}
		}
	}
}

// read returns the walk that the list gives, if it gives one.
func (w work) read(list []int) (walked, bool) {
	if len(list) != 2*w.borders() || !all(list, Range{0, api.MaxWalkCarry}.has) {
		return walked{}, false
	}
	var x walked
	copy(x[:], list)
	return x, true
}

// list returns the walk as a list.
func (w work) list(x walked) []int { return slices.Clone(x[:2*w.borders()]) }

func (x walked) right(border int) int { return x[2*border] }

func (x walked) left(border int) int { return x[2*border+1] }

func (x walked) carried() int {
	sum := 0
	for _, many := range x {
		sum += many
	}
	return sum
}

func (x walked) changes() changes {
	var c changes
	for border := range maxBorders {
		toTheRight := x.right(border) - x.left(border)
		c[border] -= toTheRight
		c[border+1] += toTheRight
	}
	return c
}

// eveningAfter returns the evening that follows from the morning's numbers.
func (x walked) eveningAfter(morning []int) []int {
	var evening []int
	c := x.changes()
	for stretch, n := range morning {
		evening = append(evening, n+c[stretch])
	}
	return evening
}

// agrees reports whether the line is right.
func (x walked) agrees(l Line) bool {
	if l.Left {
		return l.Many.has(x.left(l.Border))
	}
	return l.Many.has(x.right(l.Border))
}

// fewest returns the first one of the walks that have the fewest chairs carried.
func (w work) fewest() walked {
	best := w.walks[0]
	for _, x := range w.walks {
		if x.carried() < best.carried() {
			best = x
		}
	}
	return best
}
