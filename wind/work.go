package wind

import (
	"iter"
	"slices"

	"foreshore/api"
)

// directions says how many there are: all numbers below it.
const directions = 4

// clouds is in place of the direction of the sun.
const clouds = -1

// ahead has the way from a place to the next one in each direction.
var ahead = [directions]Spot{{-1, 0}, {0, 1}, {1, 0}, {0, -1}}

// facing has the direction of each row, and 0 for rows that the beach does not
// have, so that equal directions are equal arrays.
type facing [api.MaxWindRows]int

// schedule is a plan: where the rows face in each hour.
type schedule [api.MaxWindLast + 1]facing

// truth says where the wind of each hour comes from.
type truth [api.MaxWindLast + 1]int

// view is an hour, with where the rows face in it and the wind comes from.
type view struct {
	hour int
	rows facing
	from int
}

// site is a beach at work.
type site struct{ Beach }

// question is what is bounded: a number that some places have together in a
// range of hours.
type question struct {
	places []Spot
	hours  Range
	ask    func(h Hours) int
}

// start checks a beach, and that it has a truth. Whether what is asked about is
// there is told by the caller, because this error comes in between.
func start(b Beach, isThere bool) (site, api.Errno) {
	if e := CheckBeach(b); e != api.OK {
		return site{}, e
	}
	if !isThere {
		return site{}, api.ErrRange
	}
	s := site{b}
	if !s.hasTruth() {
		return site{}, api.ErrFalse
	}
	return s, api.OK
}

// isValid reports whether the beach is valid, however many breaks and notes it
// has.
func (s site) isValid() bool {
	return upTo(s.Last, api.MaxWindLast) &&
		Range{1, api.MaxWindRows}.has(s.Rows) &&
		Range{1, api.MaxWindPlaces}.has(s.Places) &&
		upTo(s.Reach, api.MaxWindReach) &&
		s.isFacing(s.Face) &&
		len(s.Sun) == s.Last+1 && all(s.Sun, isSun) &&
		len(s.Winds) == s.Last+1 && all(s.Winds, isChoice) &&
		all(s.Breaks, s.isSpot) &&
		all(s.Notes, s.isNote)
}

func isDirection(n int) bool { return upTo(n, directions-1) }

func isSun(n int) bool { return n == clouds || isDirection(n) }

// isChoice reports whether the wind of an hour can be chosen from the list.
func isChoice(list []int) bool {
	for i := 1; i < len(list); i++ {
		if list[i-1] >= list[i] {
			return false
		}
	}
	return len(list) > 0 && all(list, isDirection)
}

func (s site) isSpot(p Spot) bool { return upTo(p.Row, s.Rows-1) && upTo(p.Place, s.Places-1) }

func (s site) isNote(n Note) bool { return upTo(n.Hour, s.Last) && isDirection(n.From) }

func (s site) isFacing(list []int) bool { return len(list) == s.Rows && all(list, isDirection) }

func (s site) isPlan(plan [][]int) bool { return len(plan) == s.Last+1 && all(plan, s.isFacing) }

func (s site) isTruth(list []int) bool {
	return some(s.truths(), func(t truth) bool { return slices.Equal(t[:s.Last+1], list) })
}

func (s site) hasTruth() bool {
	return some(s.truths(), func(truth) bool { return true })
}

func faced(list []int) facing {
	var f facing
	copy(f[:], list)
	return f
}

func scheduled(plan [][]int) schedule {
	var p schedule
	for hour, list := range plan {
		p[hour] = faced(list)
	}
	return p
}

// agrees reports whether both notes can be right.
func (n Note) agrees(other Note) bool { return n.Hour != other.Hour || n == other }

// winds returns from where the wind of the hour can come by the notes.
func (s site) winds(hour int) []int {
	var list []int
	for _, from := range s.Winds[hour] {
		if all(s.Notes, Note{hour, from}.agrees) {
			list = append(list, from)
		}
	}
	return list
}

// truths yields the truths of the beach.
func (s site) truths() iter.Seq[truth] {
	return func(yield func(truth) bool) {
		var choose func(t truth, hour int) bool
		choose = func(t truth, hour int) bool {
			if hour > s.Last {
				return yield(t)
			}
			for _, from := range s.winds(hour) {
				t[hour] = from
				if !choose(t, hour+1) {
					return false
				}
			}
			return true
		}
		choose(truth{}, 0)
	}
}

func opposite(direction int) int { return (direction + directions/2) % directions }

// quarters returns the minimum number of quarter turns from one direction to
// another one.
func quarters(from, to int) int {
	right := (to - from + directions) % directions
	return minimum(right, directions-right)
}

// turning returns the work of one turn of a row.
func (s site) turning(from, to int) int { return s.Places * quarters(from, to) }

func (s site) work(p schedule) int {
	work, before := 0, faced(s.Face)
	for hour := range s.Last + 1 {
		for row := range s.Rows {
			work += s.turning(before[row], p[hour][row])
		}
		before = p[hour]
	}
	return work
}

// isBehind reports whether a break is before the place for the direction.
func (s site) isBehind(p Spot, direction int) bool {
	for range s.Reach {
		p.Row += ahead[direction].Row
		p.Place += ahead[direction].Place
		if slices.Contains(s.Breaks, p) {
			return true
		}
	}
	return false
}

// hours returns what the place has in one hour.
func (s site) hours(v view, p Spot) Hours {
	var h Hours
	face := v.rows[p.Row]
	if face == s.Sun[v.hour] {
		h.Sun = 1
	}
	if face == opposite(v.from) || s.isBehind(p, v.from) {
		h.Calm = 1
	}
	h.Good = h.Sun * h.Calm
	return h
}

func (h Hours) plus(other Hours) Hours {
	return Hours{h.Sun + other.Sun, h.Calm + other.Calm, h.Good + other.Good}
}

func (h Hours) sun() int { return h.Sun }

func (h Hours) calm() int { return h.Calm }

func (h Hours) good() int { return h.Good }

// played returns what the place has in all hours, with these winds.
func (s site) played(p schedule, winds []int, at Spot) Hours {
	var h Hours
	for hour, from := range winds {
		h = h.plus(s.hours(view{hour, p[hour], from}, at))
	}
	return h
}

// bounds returns the bounds of what is asked in all truths. Each wind of an hour
// can be there with each one of another hour, so the least numbers of the hours
// can come together; so can the greatest ones.
func (s site) bounds(p schedule, q question) Range {
	var r Range
	for hour := q.hours.Lo; hour <= q.hours.Hi; hour++ {
		var answers []int
		for _, from := range s.winds(hour) {
			var h Hours
			for _, at := range q.places {
				h = h.plus(s.hours(view{hour, p[hour], from}, at))
			}
			answers = append(answers, q.ask(h))
		}
		r.Lo += minimum(answers[0], answers...)
		r.Hi += slices.Max(answers)
	}
	return r
}

func (s site) bound(p schedule, at Spot) Bound {
	of := func(ask func(h Hours) int) Range {
		return s.bounds(p, question{[]Spot{at}, Range{0, s.Last}, ask})
	}
	return Bound{of(Hours.sun).Lo, of(Hours.calm), of(Hours.good)}
}

// verdict returns whether what is so or not, and then 1 or 0, is always so.
func verdict(r Range) int {
	switch r {
	case Range{1, 1}:
		return Always
	case Range{0, 0}:
		return Never
	}
	return Perhaps
}

// byPlace returns for each row what its places have.
func byPlace[T any](s site, of func(at Spot) T) [][]T {
	var list [][]T
	for row := range s.Rows {
		var places []T
		for place := range s.Places {
			places = append(places, of(Spot{row, place}))
		}
		list = append(list, places)
	}
	return list
}

func (s site) places() []Spot {
	return slices.Concat(byPlace(s, func(at Spot) Spot { return at })...)
}

// smallestSet returns the smallest set of notes to leave out.
func (s site) smallestSet() []int {
	var smallest []int
search:
	for many := range len(s.Notes) + 1 {
		for set := range sets(len(s.Notes), many) {
			if s.without(set).hasTruth() {
				smallest = set
				break search
			}
		}
	}
	return smallest
}

// without returns the beach without the notes of the set.
func (s site) without(set []int) site {
	var notes []Note
	for i, n := range s.Notes {
		if !slices.Contains(set, i) {
			notes = append(notes, n)
		}
	}
	s.Notes = notes
	return s
}

// sets yields the increasing lists of so many numbers from 0 on that are below
// the end, in their lexicographic order.
func sets(end, many int) iter.Seq[[]int] {
	return func(yield func([]int) bool) {
		var choose func(set []int, next int) bool
		choose = func(set []int, next int) bool {
			if len(set) == many {
				// A copy, because sets with the same beginning share memory.
				return yield(slices.Clone(set))
			}
			for i := next; i < end; i++ {
				if !choose(append(set, i), i+1) {
					return false
				}
			}
			return true
		}
		choose(nil, 0)
	}
}

func (r Range) has(n int) bool { return r.Lo <= n && n <= r.Hi }

func upTo(n, most int) bool { return Range{0, most}.has(n) }

func all[T any](list []T, holds func(T) bool) bool {
	for _, x := range list {
		if !holds(x) {
			return false
		}
	}
	return true
}

func some[T any](seq iter.Seq[T], holds func(T) bool) bool {
	for x := range seq {
		if holds(x) {
			return true
		}
	}
	return false
}

func minimum(first int, more ...int) int {
	for _, n := range more {
		first = min(first, n)
	}
	return first
}
