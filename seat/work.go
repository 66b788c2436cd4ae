package seat

import (
	"iter"
	"slices"

	"foreshore/api"
	"foreshore/wind"
)

// line has a number for each place of a row, and 0 for places that the beach
// does not have, so that equal rows are equal arrays.
type line [api.MaxWindPlaces]int

// field has the lines of all rows.
type field [api.MaxWindRows]line

// work is a case at work, with the sure hours of its places, and with what was
// found of groups, which most seatings have in common with others.
type work struct {
	Case
	sure  field
	found map[group]worth
}

// question is what is asked of each family, by the good hours of its places.
type question struct {
	groups []seated
	ask    func(f Family, hours []int) int
}

// start checks a case, and finds the sure hours of its places.
func start(c Case) (work, api.Errno) {
	if len(c.Families) > api.MaxSeatFamilies {
		return work{}, api.ErrLimit
	}
	bounds, e := wind.Bounds(c.Beach, c.Plan)
	if e != api.OK {
		return work{}, e
	}
	w := work{c, numbers(bounds, sureHours), map[group]worth{}}
	if !w.isValid() {
		return work{}, api.ErrArg
	}
	return w, api.OK
}

// startSeated is start for a case with a seating.
func startSeated(c Case, seats []wind.Spot) (work, seating, api.Errno) {
	w, e := start(c)
	if e != api.OK {
		return work{}, seating{}, e
	}
	s, ok := w.seatingAt(seats)
	if !ok {
		return work{}, seating{}, api.ErrRange
	}
	return w, s, api.OK
}

// isValid reports whether what the beach and the plan do not have is valid.
func (w work) isValid() bool {
	return len(w.Chairs) == w.Beach.Rows && all(w.Chairs, w.isRow) && all(w.Families, Family.isValid)
}

func (w work) isRow(chairs []bool) bool { return len(chairs) == w.Beach.Places }

func (f Family) isValid() bool {
	return Range{1, api.MaxSeatSize}.has(f.Size) && Range{0, api.MaxSeatGood}.has(f.Good)
}

// numbers returns the field with a number of what each place has.
func numbers[T any](rows [][]T, number func(T) int) field {
	var f field
	for row, places := range rows {
		for place, x := range places {
			f[row][place] = number(x)
		}
	}
	return f
}

func goodHours(h wind.Hours) int { return h.Good }

func sureHours(b wind.Bound) int { return b.Good.Lo }

func (f field) plus(other field) field {
	for row, l := range other {
		for place, n := range l {
			f[row][place] += n
		}
	}
	return f
}

// of returns the numbers of the places of a group.
func (f field) of(g group) []int {
	return slices.Clone(f[g.first.Row][g.first.Place:g.end()])
}

// alone returns the beach in one hour.
func (w work) alone(hour int) wind.Beach {
	b := w.Beach
	b.Last, b.Sun, b.Winds, b.Notes = 0, b.Sun[hour:hour+1], b.Winds[hour:hour+1], nil
	for _, n := range w.Beach.Notes {
		if n.Hour == hour {
			b.Notes = append(b.Notes, wind.Note{Hour: 0, From: n.From})
		}
	}
	return b
}

// goods returns which places are good in an hour, for each wind that it can have.
func (w work) goods(hour int) []field {
	var list []field
	b := w.alone(hour)
	for _, from := range w.Beach.Winds[hour] {
		truth := []int{from}
		if played, e := wind.Play(b, w.Plan[hour:hour+1], truth); e == api.OK && wind.ProveTruth(b, truth) {
			list = append(list, numbers(played, goodHours))
		}
	}
	return list
}

// truths yields the good hours of all places in each truth of the beach. They
// are found hour by hour, because the wind of an hour has nothing to do with
// those of the others, and there are few winds, but many truths.
func (w work) truths() iter.Seq[field] {
	return func(yield func(field) bool) {
		var goods [][]field
		for hour := range w.Beach.Last + 1 {
			goods = append(goods, w.goods(hour))
		}
		var choose func(sum field, hour int) bool
		choose = func(sum field, hour int) bool {
			if hour == len(goods) {
				return yield(sum)
			}
			for _, f := range goods[hour] {
				if !choose(sum.plus(f), hour+1) {
					return false
				}
			}
			return true
		}
		choose(field{}, 0)
	}
}

func (f Family) sum(hours []int) int { return sum(hours) }

// content returns 1 if the family is content, and 0 if it is not.
func (f Family) content(hours []int) int {
	if minimum(hours[0], hours...) < f.Good {
		return 0
	}
	return 1
}

// answers returns what is asked of each family in the truth with these hours.
func (w work) answers(q question, good field) []int {
	var list []int
	for _, s := range q.groups {
		list = append(list, q.ask(w.Families[s.family], good.of(s.group)))
	}
	return list
}

// bounds returns for each family the bounds of what is asked in all truths.
func (w work) bounds(q question) []Range {
	answers := make([][]int, len(q.groups))
	for good := range w.truths() {
		for i, n := range w.answers(q, good) {
			answers[i] = append(answers[i], n)
		}
	}
	var list []Range
	for _, l := range answers {
		list = append(list, Range{minimum(l[0], l...), slices.Max(l)})
	}
	return list
}

// verdict returns whether what is so or not, and then 1 or 0, is always so.
func verdict(r Range) int {
	switch r {
	case Range{1, 1}:
		return Always
	case Range{0, 0}:
		return Never
	}
	return Perhaps
}

func (r Range) has(n int) bool { return r.Lo <= n && n <= r.Hi }

func all[T any](list []T, holds func(T) bool) bool {
	for _, x := range list {
		if !holds(x) {
			return false
		}
	}
	return true
}

func minimum(first int, more ...int) int {
	for _, n := range more {
		first = min(first, n)
	}
	return first
}

func sum(list []int) int {
	total := 0
	for _, n := range list {
		total += n
	}
	return total
}
