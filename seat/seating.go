package seat

import (
	"iter"
	"slices"

	"foreshore/api"
	"foreshore/wind"
)

// group is a number of people on places from a first one on.
type group struct {
	first wind.Spot
	size  int
}

// worth is what a group has: the sure hours of its places, all together and the
// least of them, and how many of the places have no chair.
type worth struct{ sun, least, carried int }

// party is a number of people of a family that are to sit together.
type party struct{ family, size int }

// seated is a party with its places.
type seated struct {
	family int
	group
}

// seating has the places of all parties, its sun, and how many chairs are
// carried for it.
type seating struct {
	groups       []seated
	sun, carried int
}

func (g group) end() int { return g.first.Place + g.size }

func (g group) overlaps(other group) bool {
	return g.first.Row == other.first.Row && g.first.Place < other.end() && other.first.Place < g.end()
}

func (g group) isBeside(other group) bool {
	return g.first.Row == other.first.Row && (g.end() == other.first.Place || other.end() == g.first.Place)
}

// spots yields the places of the beach, in the order of their rows.
func (w work) spots() iter.Seq[wind.Spot] {
	return func(yield func(wind.Spot) bool) {
		for row := range w.Beach.Rows {
			for place := range w.Beach.Places {
				if !yield(wind.Spot{Row: row, Place: place}) {
					return
				}
			}
		}
	}
}

func (w work) isOnBeach(g group) bool {
	return Range{0, w.Beach.Rows - 1}.has(g.first.Row) && Range{0, w.Beach.Places - g.size}.has(g.first.Place)
}

// worth returns what a group on the beach has.
func (w work) worth(g group) worth {
	x, ok := w.found[g]
	if !ok {
		hours := w.sure.of(g)
		chairs := w.Chairs[g.first.Row][g.first.Place:g.end()]
		x = worth{sum(hours), minimum(hours[0], hours...), g.size - count(chairs)}
		w.found[g] = x
	}
	return x
}

// isSure reports whether the sure hours of each place are enough for the family.
func (w work) isSure(s seated) bool { return w.worth(s.group).least >= w.Families[s.family].Good }

// disturbs reports whether a family has a dog, and sits beside another one that
// is shy.
func (w work) disturbs(dog, shy seated) bool {
	return dog.family != shy.family && w.Families[dog.family].Dog && w.Families[shy.family].Shy && dog.isBeside(shy.group)
}

// fits reports whether a party can sit there together with those that do.
func (w work) fits(s seating, next seated) bool {
	return w.isOnBeach(next.group) && all(s.groups, func(other seated) bool {
		return !other.overlaps(next.group) && !w.disturbs(other, next) && !w.disturbs(next, other)
	})
}

// with returns the seating with one more party.
func (w work) with(s seating, next seated) seating {
	x := w.worth(next.group)
	// A copy, because seatings with the same beginning share memory.
	return seating{append(slices.Clone(s.groups), next), s.sun + x.sun, s.carried + x.carried}
}

// hasChairs reports whether there are chairs for all parties.
func (w work) hasChairs(parties []party) bool {
	people, chairs := 0, 0
	for _, p := range parties {
		people += p.size
	}
	for _, row := range w.Chairs {
		chairs += count(row)
	}
	return people <= chairs
}

// parties returns the families but for those that are left out.
func (w work) parties(left ...int) []party {
	var list []party
	for i, f := range w.Families {
		if !slices.Contains(left, i) {
			list = append(list, party{i, f.Size})
		}
	}
	return list
}

// seatingAt returns the seating of the families with these first places, if they
// are one.
func (w work) seatingAt(seats []wind.Spot) (seating, bool) {
	parties := w.parties()
	if len(seats) != len(parties) || !w.hasChairs(parties) {
		return seating{}, false
	}
	var s seating
	for i, p := range parties {
		next := seated{p.family, group{seats[i], p.size}}
		if !w.fits(s, next) {
			return seating{}, false
		}
		s = w.with(s, next)
	}
	return s, true
}

// seatings yields the allowed seatings of the parties.
func (w work) seatings(parties []party) iter.Seq[seating] {
	return func(yield func(seating) bool) {
		var seat func(s seating) bool
		seat = func(s seating) bool {
			if len(s.groups) == len(parties) {
				return yield(s)
			}
			p := parties[len(s.groups)]
			for first := range w.spots() {
				next := seated{p.family, group{first, p.size}}
				if w.fits(s, next) && w.isSure(next) && !seat(w.with(s, next)) {
					return false
				}
			}
			return true
		}
		if w.hasChairs(parties) {
			seat(seating{})
		}
	}
}

func (w work) canSeat(parties []party) bool {
	for range w.seatings(parties) {
		return true
	}
	return false
}

func (s seating) isBetter(other seating) bool {
	return s.sun > other.sun || s.sun == other.sun && s.carried < other.carried
}

// best returns one of the best seatings, if there is one.
func (w work) best() (best seating, ok bool) {
	for s := range w.seatings(w.parties()) {
		if !ok || s.isBetter(best) {
			best, ok = s, true
		}
	}
	return best, ok
}

func (s seating) firsts() []wind.Spot {
	var list []wind.Spot
	for _, x := range s.groups {
		list = append(list, x.first)
	}
	return list
}

// smallestSet returns the smallest set of families to send away.
func (w work) smallestSet() []int {
	var smallest []int
search:
	for many := range len(w.Families) + 1 {
		for set := range sets(len(w.Families), many) {
			if w.canSeat(w.parties(set...)) {
				smallest = set
				break search
			}
		}
	}
	return smallest
}

// canPart reports whether a family can be parted. Which of its groups is the
// smaller one does not matter, so the first one is never the greater.
func (w work) canPart(family int) bool {
	others := w.parties(family)
	size := w.Families[family].Size
	for less := 1; less <= size-less; less++ {
		if w.canSeat(slices.Concat(others, []party{{family, less}, {family, size - less}})) {
			return true
		}
	}
	return false
}

// bestSpot returns the best spot for one more break, and its gain, if some spot
// has one.
func (w work) bestSpot() (spot wind.Spot, gain int, ok bool) {
	tried := map[field]bool{}
	for at := range w.spots() {
		x, e := start(w.withBreak(at))
		// With the same sure hours the gain is the same, and the first spot counts.
		if e != api.OK || tried[x.sure] {
			continue
		}
		tried[x.sure] = true
		if s, found := x.best(); found && (!ok || s.sun > gain) {
			spot, gain, ok = at, s.sun, true
		}
	}
	return spot, gain, ok
}

// withBreak returns the case with one more break.
func (w work) withBreak(at wind.Spot) Case {
	c := w.Case
	c.Beach.Breaks = slices.Concat(c.Beach.Breaks, []wind.Spot{at})
	return c
}

// sets yields the increasing lists of so many numbers from 0 on that are below
// the end, in their lexicographic order.
func sets(end, many int) iter.Seq[[]int] {
	return func(yield func([]int) bool) {
		var choose func(set []int, next int) bool
		choose = func(set []int, next int) bool {
			if len(set) == many {
				// A copy, because sets with the same beginning share memory.
				return yield(slices.Clone(set))
			}
			for i := next; i < end; i++ {
				if !choose(append(set, i), i+1) {
					return false
				}
			}
			return true
		}
		choose(nil, 0)
	}
}

func count(chairs []bool) int {
	many := 0
	for _, there := range chairs {
		if there {
			many++
		}
	}
	return many
}
