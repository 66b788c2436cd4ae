package walk

import (
	"iter"
	"slices"

	"foreshore/api"
	"foreshore/count"
)

// change is a stretch with the change of its number.
type change struct{ stretch, by int }

// work is a day at work: the numbers that its counts leave, the morning's ones
// that explain a change, and the walks that are asked about, in their
// lexicographic order.
type work struct {
	Day
	mornings, evenings []Range
	from               map[change]Range
	walks              []walked
}

// question is what is bounded: the numbers that a walk allows, about a stretch, a
// border or nothing.
type question struct {
	ask   func(w work, x walked, about int) Range
	about int
}

// start checks a day, and finds its numbers.
func start(d Day) (work, api.Errno) {
	if len(d.Morning) > api.MaxWalkStretches || len(d.Lines) > api.MaxWalkLines {
		return work{}, api.ErrLimit
	}
	if len(d.Morning) < 2 || len(d.Evening) != len(d.Morning) {
		return work{}, api.ErrArg
	}
	mornings, e := numbers(d.Morning)
	if e != api.OK {
		return work{}, e
	}
	evenings, e := numbers(d.Evening)
	if e != api.OK {
		return work{}, e
	}
	if !all(d.Lines, d.validLine) {
		return work{}, api.ErrArg
	}
	w := work{Day: d, mornings: mornings, evenings: evenings}
	w.from = w.explanations()
	return w, api.OK
}

// startExplained is start for the walks that explain the counts. Whether what is
// asked about is there is told by the caller, because this error comes in between.
func startExplained(d Day, isThere bool) (work, api.Errno) {
	w, e := start(d)
	if e != api.OK {
		return work{}, e
	}
	if !isThere {
		return work{}, api.ErrRange
	}
	w.walks = slices.Collect(w.explaining())
	if len(w.walks) == 0 {
		return work{}, api.ErrShort
	}
	return w, api.OK
}

// startOwn is startExplained for the walks of the day.
func startOwn(d Day, isThere bool) (work, api.Errno) {
	w, e := startExplained(d, isThere)
	if e != api.OK {
		return work{}, e
	}
	w.walks = slices.DeleteFunc(w.walks, func(x walked) bool { return !all(w.Lines, x.agrees) })
	if len(w.walks) == 0 {
		return work{}, api.ErrFalse
	}
	return w, api.OK
}

// numbers returns how many chairs each of the rows can have.
func numbers(rows []count.Row) ([]Range, api.Errno) {
	var list []Range
	for _, r := range rows {
		n, e := count.Chairs(r, 0, len(r.Places)-1)
		if e != api.OK {
			return nil, e
		}
		list = append(list, Range(n))
	}
	return list, api.OK
}

func (d Day) borders() int { return len(d.Morning) - 1 }

func (d Day) hasBorder(border int) bool { return Range{0, d.borders() - 1}.has(border) }

func (d Day) validLine(l Line) bool {
	return d.hasBorder(l.Border) && 0 <= l.Many.Lo && l.Many.Lo <= l.Many.Hi && l.Many.Hi <= api.MaxWalkLine
}

// explanations returns, for each change of a stretch that its counts allow, the
// morning's numbers from which an evening's number follows.
func (w work) explanations() map[change]Range {
	from := map[change]Range{}
	for stretch, morning := range w.mornings {
		evening := w.evenings[stretch]
		for before := morning.Lo; before <= morning.Hi; before++ {
			for after := evening.Lo; after <= evening.Hi; after++ {
				key := change{stretch, after - before}
				r, met := from[key]
				if !met {
					r.Lo = before
				}
				// The numbers between two that explain a change explain it, too.
				r.Hi = before
				from[key] = r
			}
		}
	}
	return from
}

// explains reports whether evening's numbers follow from morning's ones by the
// changes.
func (w work) explains(c changes) bool {
	for stretch := range w.mornings {
		if _, ok := w.from[change{stretch, c[stretch]}]; !ok {
			return false
		}
	}
	return true
}

// isMorning reports whether the list has one morning's number of each stretch.
func (w work) isMorning(list []int) bool {
	if len(list) != len(w.mornings) {
		return false
	}
	for stretch, r := range w.mornings {
		if !r.has(list[stretch]) {
			return false
		}
	}
	return true
}

// fits reports whether the lines are all right in one of the walks.
func (w work) fits(lines []Line) bool {
	return slices.ContainsFunc(w.walks, func(x walked) bool { return all(lines, x.agrees) })
}

// morningIn returns the morning's numbers of the stretch that go with the walk.
func (w work) morningIn(x walked, stretch int) Range {
	return w.from[change{stretch, x.changes()[stretch]}]
}

func (w work) eveningIn(x walked, stretch int) Range {
	r, by := w.morningIn(x, stretch), x.changes()[stretch]
	return Range{r.Lo + by, r.Hi + by}
}

func (w work) rightIn(x walked, border int) Range { return only(x.right(border)) }

func (w work) leftIn(x walked, border int) Range { return only(x.left(border)) }

func (w work) carriedIn(x walked, _ int) Range { return only(x.carried()) }

func only(n int) Range { return Range{n, n} }

// bounds returns the bounds of what is asked in all the walks.
func (w work) bounds(q question) Range {
	var lows, highs []int
	for _, x := range w.walks {
		r := q.ask(w, x, q.about)
		lows, highs = append(lows, r.Lo), append(highs, r.Hi)
	}
	return Range{minimum(lows[0], lows...), slices.Max(highs)}
}

// smallestSet returns the smallest set of lines to leave out.
func (w work) smallestSet() []int {
	var smallest []int
search:
	for many := range len(w.Lines) + 1 {
		for set := range sets(len(w.Lines), many) {
			if w.fits(w.without(set)) {
				smallest = set
				break search
			}
		}
	}
	return smallest
}

// without returns the lines that are not in the set.
func (w work) without(set []int) []Line {
	var lines []Line
	for i, l := range w.Lines {
		if !slices.Contains(set, i) {
			lines = append(lines, l)
		}
	}
	return lines
}

// sets yields the increasing lists of so many numbers from 0 on that are below
// the end, in their lexicographic order.
func sets(end, many int) iter.Seq[[]int] {
	return func(yield func([]int) bool) {
		var choose func(set []int, next int) bool
		choose = func(set []int, next int) bool {
			if len(set) == many {
				// A copy, because sets with the same beginning share memory.
				return yield(slices.Clone(set))
			}
			for i := next; i < end; i++ {
				if !choose(append(set, i), i+1) {
					return false
				}
			}
			return true
		}
		choose(nil, 0)
	}
}

func (r Range) has(n int) bool { return r.Lo <= n && n <= r.Hi }

func all[T any](list []T, holds func(T) bool) bool {
	for _, x := range list {
		if !holds(x) {
			return false
		}
	}
	return true
}

func minimum(first int, more ...int) int {
	for _, n := range more {
		first = min(first, n)
	}
	return first
}
