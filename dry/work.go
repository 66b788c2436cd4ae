package dry

import (
	"iter"
	"slices"

	"foreshore/api"
	"foreshore/tide"
)

// wetness has the hours in which each chair is wet while it is not brought in, and
// none for chairs that the yard does not have.
type wetness [api.MaxDryChairs]hours

// sea has the height of each hour, 0 for what is after the last hour, and what they
// make wet.
type sea struct {
	heights [api.MaxTideLast + 1]int
	wet     wetness
}

// brought is a chair with the hour at whose beginning it is brought in (one after
// the last one, if it is not).
type brought struct{ chair, hour int }

// work is a yard at work, with the seas that are asked about, and the stays of
// chairs in each of them, as far as they were asked for.
type work struct {
	Yard
	seas  []sea
	stays map[brought][]stay
}

// question is what is bounded: a number that a stay has, about an hour or nothing.
type question struct {
	ask   func(s stay, about int) int
	about int
}

// start checks a yard.
func start(y Yard) (work, api.Errno) {
	if len(y.Chairs) > api.MaxDryChairs || len(y.Hires) > api.MaxDryHires {
		return work{}, api.ErrLimit
	}
	if _, e := tide.Bounds(y.Table); e != api.OK {
		return work{}, e
	}
	if !y.isValid() {
		return work{}, api.ErrArg
	}
	return work{Yard: y, stays: map[brought][]stay{}}, api.OK
}

// startWith is start for a yard with an order.
func startWith(y Yard, order []int) (work, api.Errno) {
	w, e := start(y)
	if e != api.OK {
		return work{}, e
	}
	if !y.isOrder(order) {
		return work{}, api.ErrRange
	}
	return w, api.OK
}

// startAll is start for the truths of the table, whether the hires are right in
// them or not.
func startAll(y Yard) (work, api.Errno) {
	w, e := start(y)
	if e != api.OK {
		return work{}, e
	}
	w.seas = w.differentSeas()
	return w, api.OK
}

// startOwn is startWith for the truths of the yard. Whether what is asked about is
// there is told by the caller, because this error comes in between.
func startOwn(y Yard, order []int, isThere bool) (work, api.Errno) {
	w, e := startWith(y, order)
	if e != api.OK {
		return work{}, e
	}
	if !isThere {
		return work{}, api.ErrRange
	}
	w.seas = slices.DeleteFunc(w.differentSeas(), func(s sea) bool { return !w.agrees(s, y.Hires) })
	if len(w.seas) == 0 {
		return work{}, api.ErrFalse
	}
	return w, api.OK
}

// isValid reports whether what the table does not have is valid.
func (y Yard) isValid() bool {
	return Range{0, api.MaxDryHands}.has(y.Hands) && all(y.Chairs, y.validChair) && y.isOrder(y.Order) && all(y.Hires, y.validHire)
}

func (y Yard) validChair(c Chair) bool {
	return Range{0, len(y.Table.Levels) - 1}.has(c.Row) && Range{0, api.MaxDryHours}.has(c.Hours) && Range{1, api.MaxDryRot}.has(c.Rot)
}

func (y Yard) validHire(h Hire) bool { return y.hasChair(h.Chair) && y.hasHour(h.Hour) }

func (y Yard) hasChair(chair int) bool { return Range{0, len(y.Chairs) - 1}.has(chair) }

func (y Yard) hasHour(hour int) bool { return Range{0, y.Table.Last}.has(hour) }

func (y Yard) isOrder(list []int) bool {
	for i, n := range list {
		if !y.hasChair(n) || !isNew(list[:i], n) {
			return false
		}
	}
	return true
}

// truths yields the truths of the table, whether the hires are right in them or
// not.
func (w work) truths() iter.Seq[sea] {
	return func(yield func(sea) bool) {
		heights := make([]int, w.Table.Last+1)
		var choose func(hour int) bool
		choose = func(hour int) bool {
			if hour > w.Table.Last {
				s, ok := w.truth(w.tableOf(heights), heights)
				return !ok || yield(s)
			}
			r := w.Table.Heights[hour]
			for height := r.Lo; height <= r.Hi; height++ {
				heights[hour] = height
				if !choose(hour + 1) {
					return false
				}
			}
			return true
		}
		choose(0)
	}
}

// tableOf returns the table with no other heights than these: what is asked of the
// whole table about one list costs time for all its lists.
func (w work) tableOf(heights []int) tide.Table {
	t := w.Table
	t.Heights = nil
	for _, n := range heights {
		t.Heights = append(t.Heights, tide.Range{Lo: n, Hi: n})
	}
	return t
}

// truth returns the sea with these heights, if they are a truth of the table.
func (w work) truth(t tide.Table, heights []int) (sea, bool) {
	if !tide.ProveTruth(t, heights) {
		return sea{}, false
	}
	s, e := w.read(t, heights)
	return s, e == api.OK
}

// read returns the sea with these heights, or the error if they are no list of the
// table.
func (w work) read(t tide.Table, heights []int) (sea, api.Errno) {
	rows, e := tide.Play(t, heights)
	if e != api.OK {
		return sea{}, e
	}
	var s sea
	copy(s.heights[:], heights)
	for chair, c := range w.Chairs {
		for _, hour := range rows[c.Row] {
			s.wet[chair][hour] = true
		}
	}
	return s, api.OK
}

// list returns the heights of the sea as a list.
func (w work) list(s sea) []int { return slices.Clone(s.heights[:w.Table.Last+1]) }

// differentSeas returns the truths of the table, and of those that make the same
// chairs wet in the same hours only the first one: nothing else of them matters.
func (w work) differentSeas() []sea {
	var seas []sea
	met := map[wetness]bool{}
	for s := range w.truths() {
		if !met[s.wet] {
			met[s.wet] = true
			seas = append(seas, s)
		}
	}
	return seas
}

// bring returns when the chair is brought in by the order.
func (w work) bring(order []int, chair int) brought {
	after := w.Table.Last + 1
	at := slices.Index(order, chair)
	if at < 0 || w.Hands == 0 {
		return brought{chair, after}
	}
	return brought{chair, min(at/w.Hands, after)}
}

// stay returns the stay of a chair in the sea.
func (w work) stay(s sea, b brought) stay {
	return w.Chairs[b.chair].stay(s.wet[b.chair].before(b.hour), w.Table.Last)
}

// staysOf returns the stays of a chair in each of the seas.
func (w work) staysOf(b brought) []stay {
	// Many orders bring a chair in in the same hour.
	if known, met := w.stays[b]; met {
		return known
	}
	var list []stay
	for _, s := range w.seas {
		list = append(list, w.stay(s, b))
	}
	w.stays[b] = list
	return list
}

// bounds returns the bounds of what is asked of a chair in all the seas.
func (w work) bounds(b brought, q question) Range {
	var answers []int
	for _, s := range w.staysOf(b) {
		answers = append(answers, q.ask(s, q.about))
	}
	return Range{minimum(answers[0], answers...), slices.Max(answers)}
}

// verdict returns whether what is so or not, and then 1 or 0, is always so.
func verdict(r Range) int {
	switch r {
	case Range{1, 1}:
		return Always
	case Range{0, 0}:
		return Never
	}
	return Perhaps
}

// loss returns the loss of the order, and the first one of the seas in which so
// many chairs rot.
func (w work) loss(order []int) (many int, worst sea) {
	rotten := make([]int, len(w.seas))
	for chair := range w.Chairs {
		for i, s := range w.staysOf(w.bring(order, chair)) {
			if s.rot <= w.Table.Last {
				rotten[i]++
			}
		}
	}
	many = slices.Max(rotten)
	return many, w.seas[slices.Index(rotten, many)]
}

// best returns the order that loses the fewest chairs, and how many. Only orders of
// all chairs are tried, because one that is longer at its end loses no more.
func (w work) best() (best []int, many int) {
	chairs := len(w.Chairs)
	many = chairs + 1
	for order := range lists(chairs, chairs, isNew) {
		if n, _ := w.loss(order); n < many {
			best, many = order, n
		}
	}
	return best, many
}

// agrees reports whether the hires are all right.
func (w work) agrees(s sea, hires []Hire) bool {
	return all(hires, func(h Hire) bool { return w.stay(s, w.bring(w.Order, h.Chair)).free[h.Hour] })
}

// allows reports whether the hires are all right in one of the seas.
func (w work) allows(hires []Hire) bool {
	return slices.ContainsFunc(w.seas, func(s sea) bool { return w.agrees(s, hires) })
}

// smallestSet returns the smallest set of hires to leave out.
func (w work) smallestSet() []int {
	var smallest []int
search:
	for many := range len(w.Hires) + 1 {
		for set := range lists(len(w.Hires), many, isGreater) {
			if w.allows(w.without(set)) {
				smallest = set
				break search
			}
		}
	}
	return smallest
}

// without returns the hires that are not in the set.
func (w work) without(set []int) []Hire {
	var hires []Hire
	for i, h := range w.Hires {
		if !slices.Contains(set, i) {
			hires = append(hires, h)
		}
	}
	return hires
}

// lists yields the lists of so many numbers from 0 on that are below the end, each
// of which can follow those before it, in their lexicographic order.
func lists(end, many int, canFollow func(before []int, n int) bool) iter.Seq[[]int] {
	return func(yield func([]int) bool) {
		var choose func(list []int) bool
		choose = func(list []int) bool {
			if len(list) == many {
				// A copy, because lists with the same beginning share memory.
				return yield(slices.Clone(list))
			}
			for n := range end {
				if canFollow(list, n) && !choose(append(list, n)) {
					return false
				}
			}
			return true
		}
		choose(nil)
	}
}

func isNew(before []int, n int) bool { return !slices.Contains(before, n) }

func isGreater(before []int, n int) bool { return len(before) == 0 || before[len(before)-1] < n }

func (r Range) has(n int) bool { return r.Lo <= n && n <= r.Hi }

func all[T any](list []T, holds func(T) bool) bool {
	for _, x := range list {
		if !holds(x) {
			return false
		}
	}
	return true
}

func minimum(first int, more ...int) int {
	for _, n := range more {
		first = min(first, n)
	}
	return first
}
