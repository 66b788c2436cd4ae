package shelter

import (
	"iter"
	"slices"

	"foreshore/api"
)

// open is the hour of a stack that a plan does not close.
const open = -1

// hours has an hour for each stack.
type hours [api.MaxShelterStacks]int

// free has the number of hands that are free in each hour.
type free [api.MaxShelterLast + 1]int

// work is a shelter at work, with the plan that is asked about, and for each stack the
// hour before which it is asked whether the plan closes it.
type work struct {
	Shelter
	plan []int
	ends hours
}

// question is what is asked of a stack.
type question struct {
	ask func(w work, stack int) bool
}

// start checks a shelter.
func start(s Shelter) (work, api.Errno) {
	if len(s.Stacks) > api.MaxShelterStacks {
		return work{}, api.ErrLimit
	}
	if !s.isValid() {
		return work{}, api.ErrArg
	}
	return work{Shelter: s}, api.OK
}

// startWith is start for a shelter with a plan.
func startWith(s Shelter, plan []int) (work, api.Errno) {
	w, e := start(s)
	if e != api.OK {
		return work{}, e
	}
	if !w.isPlan(plan) {
		return work{}, api.ErrRange
	}
	w.plan = plan
	return w, api.OK
}

// isValid reports whether the shelter is valid, however many stacks it has.
func (s Shelter) isValid() bool {
	return isBelow(s.Hands, api.MaxShelterHands+1) && s.Rain.isOfHours() && all(s.Stacks, Stack.isValid)
}

func (s Stack) isValid() bool {
	return isBelow(s.Chairs, api.MaxShelterChairs+1) && s.Leak.isOfHours()
}

func (r Range) isOfHours() bool {
	return 0 <= r.Lo && r.Lo <= r.Hi && r.Hi <= api.MaxShelterHour
}

// without returns the shelter in which these stacks have no chairs.
func (s Shelter) without(stacks ...int) Shelter {
	s.Stacks = slices.Clone(s.Stacks)
	for _, stack := range stacks {
		s.Stacks[stack].Chairs = 0
	}
	return s
}

// span returns the first hour in which water can come to the stack.
func (s Shelter) span(stack int) int { return s.Rain.Lo + s.Stacks[stack].Leak.Lo }

// hands returns the hands of the shelter, all of which are free.
func (s Shelter) hands() free {
	var f free
	for hour := range f {
		f[hour] = s.Hands
	}
	return f
}

// isPlan reports whether the list is a plan.
func (s Shelter) isPlan(list []int) bool {
	left := s.hands()
	return len(list) == len(s.Stacks) && all(list, func(hour int) bool {
		if !isBelow(hour, len(left)) {
			return hour == open
		}
		left[hour]--
		return left[hour] >= 0
	})
}

// isTruth reports whether the truth has one number of each range.
func (s Shelter) isTruth(t Truth) bool {
	if !s.Rain.has(t.Rain) || len(t.Leaks) != len(s.Stacks) {
		return false
	}
	for stack, leak := range t.Leaks {
		if !s.Stacks[stack].Leak.has(leak) {
			return false
		}
	}
	return true
}

// waters returns the hours of the water in the truth.
func (s Shelter) waters(t Truth) hours {
	ends := s.same(t.Rain)
	for stack, leak := range t.Leaks {
		ends[stack] += leak
	}
	return ends
}

// same returns this hour for each stack.
func (s Shelter) same(hour int) hours {
	var ends hours
	for stack := range s.Stacks {
		ends[stack] = hour
	}
	return ends
}

// truths yields the hours of the water in so many truths as are needed, because there
// can be 10^9 of them: each hour of the water of each stack is met, and one truth has the
// first ones of all stacks.
func (s Shelter) truths() iter.Seq[hours] {
	return func(yield func(hours) bool) {
		for rain := s.Rain.Lo; rain <= s.Rain.Hi; rain++ {
			for later := range api.MaxShelterHour + 1 {
				ends := s.same(rain)
				for stack, x := range s.Stacks {
					ends[stack] += min(x.Leak.Lo+later, x.Leak.Hi)
				}
				if !yield(ends) {
					return
				}
			}
		}
	}
}

// until returns the work that is asked what is closed before these hours.
func (w work) until(ends hours) work {
	w.ends = ends
	return w
}

// isClosed reports whether the plan closes the stack before its hour.
func (w work) isClosed(stack int) bool {
	hour := w.plan[stack]
	return hour != open && hour < w.ends[stack]
}

// isLost reports whether the stack has chairs, and no hand is there before water can
// come to it.
func (w work) isLost(stack int) bool {
	return w.Stacks[stack].Chairs > 0 && w.Hands*w.span(stack) == 0
}

// stacks returns the stacks of which what is asked is so.
func (w work) stacks(q question) []int {
	var list []int
	for stack := range w.Stacks {
		if q.ask(w, stack) {
			list = append(list, stack)
		}
	}
	return list
}

// chairs returns how many chairs these stacks have.
func (w work) chairs(q question) int {
	sum := 0
	for _, stack := range w.stacks(q) {
		sum += w.Stacks[stack].Chairs
	}
	return sum
}

// verdict returns whether what is asked of the stack is so in each truth, in none, or in
// some.
func (w work) verdict(stack int, q question) int {
	yes, no := false, false
	for ends := range w.truths() {
		is := q.ask(w.until(ends), stack)
		yes, no = yes || is, no || !is
	}
	switch {
	case !no:
		return Always
	case !yes:
		return Never
	}
	return Perhaps
}

// sure returns the number of chairs of which the plan is sure.
func (w work) sure() int {
	var saved []int
	for ends := range w.truths() {
		saved = append(saved, w.until(ends).chairs(question{work.isClosed}))
	}
	return minimum(saved[0], saved...)
}

// atBest returns the work with a plan that is sure of the sure number. Stacks with more
// chairs are closed first, each of them in the last free hour in which it is sure to be
// saved: so a stack stays open only if no plan saves it always together with those that
// came before it.
func (w work) atBest() work {
	w.plan = slices.Repeat([]int{open}, len(w.Stacks))
	left := w.hands()
	for _, stack := range w.mostFirst() {
		before := left
		hour := left.take(w.span(stack))
		if left != before {
			w.plan[stack] = hour
		}
	}
	return w
}

// mostFirst returns the stacks, those with more chairs first.
func (w work) mostFirst() []int {
	var list []int
	for stack := range w.Stacks {
		list = append(list, stack)
	}
	slices.SortStableFunc(list, func(a, b int) int { return w.Stacks[b].Chairs - w.Stacks[a].Chairs })
	return list
}

// take takes a hand in the last hour before the end in which one is free, and returns
// this hour; if there is none, it takes none.
func (f *free) take(end int) int {
	taken := 0
search:
	for hour := range hoursBefore(end) {
		if f[hour] > 0 {
			f[hour]--
			taken = hour
			break search
		}
	}
	return taken
}

// hoursBefore yields the hours before the end, the last one first.
func hoursBefore(end int) iter.Seq[int] {
	return func(yield func(int) bool) {
		for more := range end {
			if !yield(end - 1 - more) {
				return
			}
		}
	}
}

// savesAll reports whether a plan is sure of all chairs.
func (w work) savesAll() bool {
	sum := 0
	for _, x := range w.Stacks {
		sum += x.Chairs
	}
	return w.atBest().sure() == sum
}

// worth returns the worth of the stack.
func (w work) worth(stack int) int {
	less := w
	less.Shelter = w.without(stack)
	return w.atBest().sure() - less.atBest().sure()
}

func (r Range) has(n int) bool { return r.Lo <= n && n <= r.Hi }

func isBelow(n, end int) bool { return 0 <= n && n < end }

func all[T any](list []T, holds func(T) bool) bool {
	for _, x := range list {
		if !holds(x) {
			return false
		}
	}
	return true
}

func minimum(first int, more ...int) int {
	for _, n := range more {
		first = min(first, n)
	}
	return first
}
