package tide

import (
	"iter"
	"slices"

	"foreshore/api"
)

// sea has the height of each hour, and 0 for what is after the last hour, so
// that equal lists are equal arrays.
type sea [api.MaxTideLast + 1]int

// point is an hour with its height.
type point struct{ hour, height int }

// work is a table at work, with the truths of it.
type work struct {
	Table
	truths []sea
}

// question is what is bounded: a number that a sea has, about an hour or a row.
type question struct {
	ask   func(w work, s sea, about int) int
	about int
}

// start checks a table, and finds all truths of it. Whether what is asked about
// is there is told by the caller, because this error comes in between.
func start(t Table, isThere bool) (work, api.Errno) {
	if e := CheckTable(t); e != api.OK {
		return work{}, e
	}
	if !isThere {
		return work{}, api.ErrRange
	}
	w := work{Table: t}
	for s := range w.seas() {
		if all(w.Marks, s.agrees) {
			w.truths = append(w.truths, s)
		}
	}
	if len(w.truths) == 0 {
		return work{}, api.ErrFalse
	}
	return w, api.OK
}

// isValid reports whether the table is valid, whatever its sizes are.
func (w work) isValid() bool {
	return upTo(w.Last, api.MaxTideLast) &&
		len(w.Heights) == w.Last+1 &&
		all(w.Heights, validRange) &&
		validHeight(w.Step) &&
		all(w.Levels, validHeight) &&
		all(w.Marks, w.validMark)
}

func validHeight(n int) bool { return upTo(n, api.MaxTideHeight) }

func validRange(r Range) bool { return upTo(r.Lo, r.Hi) && validHeight(r.Hi) }

func (w work) validMark(m Mark) bool {
	return upTo(m.From, m.To) && upTo(m.To, w.Last) && validRange(m.Highest)
}

// isTooWide reports whether the sizes multiplied are too many.
func (w work) isTooWide() bool {
	lists := 1
	for _, r := range w.Heights {
		lists *= r.Hi - r.Lo + 1
		// Asked after each hour, because the product of all of them need not
		// fit into an int.
		if lists > api.MaxTideTruths {
			return true
		}
	}
	return false
}

func isRow(t Table, row int) bool { return upTo(row, len(t.Levels)-1) }

// seas yields the lists of the table, whether the marks are right in them or
// not.
func (w work) seas() iter.Seq[sea] {
	return func(yield func(sea) bool) {
		var s sea
		var choose func(hour int) bool
		choose = func(hour int) bool {
			if hour > w.Last {
				return yield(s)
			}
			r := w.Heights[hour]
			if hour > 0 {
				r.Lo, r.Hi = max(r.Lo, s[hour-1]-w.Step), min(r.Hi, s[hour-1]+w.Step)
			}
			for height := r.Lo; height <= r.Hi; height++ {
				s[hour] = height
				if !choose(hour + 1) {
					return false
				}
			}
			return true
		}
		choose(0)
	}
}

// read returns the sea with these heights, if they are a list of the table.
func (w work) read(heights []int) (sea, bool) {
	if len(heights) != w.Last+1 {
		return sea{}, false
	}
	var wanted sea
	copy(wanted[:], heights)
	ok := some(w.seas(), func(s sea) bool { return s == wanted })
	return wanted, ok
}

// agrees reports whether the mark is right.
func (s sea) agrees(m Mark) bool {
	highest := slices.Max(s[m.From : m.To+1])
	return m.Highest.Lo <= highest && highest <= m.Highest.Hi
}

// fits reports whether the marks are all right in some list of the table.
func (w work) fits(marks []Mark) bool {
	return some(w.seas(), func(s sea) bool { return all(marks, s.agrees) })
}

func (w work) isWet(row, height int) bool { return height > w.Levels[row] }

// wetHours returns the hours in which the row is wet.
func (w work) wetHours(s sea, row int) []int {
	var hours []int
	for hour := range w.Last + 1 {
		if w.isWet(row, s[hour]) {
			hours = append(hours, hour)
		}
	}
	return hours
}

func (w work) firstWet(s sea, row int) int {
	return minimum(w.Last+1, w.wetHours(s, row)...)
}

func (w work) height(s sea, hour int) int { return s[hour] }

// bounds returns the bounds of what is asked in all truths.
func (w work) bounds(q question) Range {
	var answers []int
	for _, s := range w.truths {
		answers = append(answers, q.ask(w, s, q.about))
	}
	return Range{Lo: minimum(answers[0], answers...), Hi: slices.Max(answers)}
}

// met returns the heights that the hours have in some truth.
func (w work) met() map[point]bool {
	met := map[point]bool{}
	for _, s := range w.truths {
		for hour := range w.Last + 1 {
			met[point{hour, s[hour]}] = true
		}
	}
	return met
}

// verdict returns whether the row is wet in the hour.
func (w work) verdict(row, hour int) int {
	met := w.met()
	wet, dry := false, false
	for height := w.Heights[hour].Lo; height <= w.Heights[hour].Hi; height++ {
		if met[point{hour, height}] {
			wet = wet || w.isWet(row, height)
			dry = dry || !w.isWet(row, height)
		}
	}
	switch {
	case !dry:
		return Always
	case !wet:
		return Never
	}
	return Perhaps
}

// smallestSet returns the smallest set of marks to leave out.
func (w work) smallestSet() []int {
	var smallest []int
search:
	for many := range len(w.Marks) + 1 {
		for set := range sets(len(w.Marks), many) {
			if w.fits(w.without(set)) {
				smallest = set
				break search
			}
		}
	}
	return smallest
}

// without returns the marks that are not in the set.
func (w work) without(set []int) []Mark {
	var marks []Mark
	for i, m := range w.Marks {
		if !slices.Contains(set, i) {
			marks = append(marks, m)
		}
	}
	return marks
}

// sets yields the increasing lists of so many numbers from 0 on that are below
// the end, in their lexicographic order.
func sets(end, many int) iter.Seq[[]int] {
	return func(yield func([]int) bool) {
		var choose func(set []int, next int) bool
		choose = func(set []int, next int) bool {
			if len(set) == many {
				// A copy, because sets with the same beginning share memory.
				return yield(slices.Clone(set))
			}
			for i := next; i < end; i++ {
				if !choose(append(set, i), i+1) {
					return false
				}
			}
			return true
		}
		choose(nil, 0)
	}
}

func upTo(n, most int) bool { return 0 <= n && n <= most }

func all[T any](list []T, holds func(T) bool) bool {
	for _, x := range list {
		if !holds(x) {
			return false
		}
	}
	return true
}

func some[T any](seq iter.Seq[T], holds func(T) bool) bool {
	for x := range seq {
		if holds(x) {
			return true
		}
	}
	return false
}

func minimum(first int, more ...int) int {
	for _, n := range more {
		first = min(first, n)
	}
	return first
}
