package count

import (
	"iter"
	"slices"

	"foreshore/api"
)

// unknown is the number of a place of which it is not known whether it has a
// chair.
const unknown = 2

// chairs has a number for each place: 1 for a chair, 0 for none, and 0 for
// what is behind the last place, so that equal truths are equal arrays.
type chairs [api.MaxCountPlaces]int

// part is from one place, or count, to another one, both included; it is empty
// if to is one less than from.
type part struct{ from, to int }

// work is a row at work, with the truths of it.
type work struct {
	Row
	truths []chairs
}

// question is what is asked of a truth: a number, of a part of its places or
// counts.
type question struct {
	ask   func(w work, c chairs, about part) int
	about part
}

// start checks a row and the part that is asked about, and finds all truths of
// the row.
func start(r Row, p part) (work, api.Errno) {
	if e := CheckRow(r); e != api.OK {
		return work{}, e
	}
	if !upTo(p.from, p.to) || p.to >= len(r.Places) {
		return work{}, api.ErrRange
	}
	w := work{Row: r}
	w.truths = slices.Collect(w.own())
	if len(w.truths) == 0 {
		return work{}, api.ErrFalse
	}
	return w, api.OK
}

func whole(r Row) part { return part{0, len(r.Places) - 1} }

func validPlace(n int) bool { return upTo(n, unknown) }

func (w work) validCount(k Count) bool {
	return upTo(k.Many, len(w.Places)) && upTo(k.Number, api.MaxCountPlaces)
}

// agreeing yields the truths, whether they explain the counts or not.
func (w work) agreeing() iter.Seq[chairs] {
	return func(yield func(chairs) bool) {
		var c chairs
		var choose func(place int) bool
		choose = func(place int) bool {
			if place == len(w.Places) {
				return yield(c)
			}
			for chair := range unknown {
				if w.Places[place] != unknown && w.Places[place] != chair {
					continue
				}
				c[place] = chair
				if !choose(place + 1) {
					return false
				}
			}
			return true
		}
		choose(0)
	}
}

// own yields the truths of the row.
func (w work) own() iter.Seq[chairs] {
	return func(yield func(chairs) bool) {
		for c := range w.agreeing() {
			if w.isOwn(c) && !yield(c) {
				return
			}
		}
	}
}

// read returns the truth that the list gives, if it gives one.
func (w work) read(list []int) (c chairs, ok bool) {
	if len(list) != len(w.Places) {
		return chairs{}, false
	}
	var wanted chairs
	copy(wanted[:], list)
search:
	for truth := range w.agreeing() {
		if truth == wanted {
			c, ok = truth, true
			break search
		}
	}
	return c, ok
}

// isOwn reports whether a truth is one of the row.
func (w work) isOwn(c chairs) bool {
	explained := all(w.mistakes(c), func(n int) bool { return n <= w.Off })
	right := w.rightIn(c, part{0, len(w.Counts) - 1})
	return explained && len(w.Counts)-right <= w.Wrong
}

// mistakes returns the error of each count in the truth.
func (w work) mistakes(c chairs) []int {
	var list []int
	for _, k := range w.Counts {
		list = append(list, w.mistake(c, k))
	}
	return list
}

func (w work) mistake(c chairs, k Count) int {
	p := part{0, k.Many - 1}
	if k.Back {
		p = part{len(w.Places) - k.Many, len(w.Places) - 1}
	}
	n := w.chairsIn(c, p)
	return max(n, k.Number) - min(n, k.Number)
}

// chairsIn returns the number of chairs in a part of the places.
func (w work) chairsIn(c chairs, about part) int {
	n := 0
	for place := about.from; place <= about.to; place++ {
		n += c[place]
	}
	return n
}

// rightIn returns the number of right counts in a part of the counts.
func (w work) rightIn(c chairs, about part) int {
	n := 0
	for i := about.from; i <= about.to; i++ {
		if w.mistake(c, w.Counts[i]) == 0 {
			n++
		}
	}
	return n
}

// answers returns what is answered in each truth of the row.
func (w work) answers(q question) []int {
	var list []int
	for _, c := range w.truths {
		list = append(list, q.ask(w, c, q.about))
	}
	return list
}

func (w work) bounds(q question) Range {
	list := w.answers(q)
	return Range{minimum(list[0], list...), maximum(list[0], list...)}
}

// verdicts returns whether the answer is always, never or perhaps 1, for each
// of so many places or counts.
func (w work) verdicts(many int, ask func(work, chairs, part) int) []int {
	var list []int
	for i := range many {
		list = append(list, verdict(w.bounds(question{ask, part{i, i}})))
	}
	return list
}

func verdict(r Range) int {
	switch r {
	case Range{1, 1}:
		return Always
	case Range{0, 0}:
		return Never
	}
	return Perhaps
}

// leftAfter returns the greater one of the numbers of truths that are left
// after looking at the place.
func (w work) leftAfter(place int) int {
	with := 0
	for _, n := range w.answers(question{work.chairsIn, part{place, place}}) {
		with += n
	}
	return max(with, len(w.truths)-with)
}

func upTo(n, most int) bool { return 0 <= n && n <= most }

func all[T any](list []T, holds func(T) bool) bool {
	for _, x := range list {
		if !holds(x) {
			return false
		}
	}
	return true
}

func minimum(first int, more ...int) int {
	for _, n := range more {
		first = min(first, n)
	}
	return first
}

func maximum(first int, more ...int) int {
	for _, n := range more {
		first = max(first, n)
	}
	return first
}
