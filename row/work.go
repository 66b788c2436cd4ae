package row

import (
	"iter"
	"slices"

	"foreshore/api"
	"foreshore/tide"
)

// strips has the strip of each row, and nowhere for rows that the beach does not have,
// so that rows on the same strips are equal arrays.
type strips [api.MaxRowRows]int

const nowhere = -1

// truth has the height of each hour.
type truth []int

// place is the level of the strip on which a row is in an hour.
type place struct{ hour, level int }

// question is what is asked of a truth, about some places.
type question struct {
	ask   func(t truth, about []place) bool
	about []place
}

// work is a beach at work, with the bounds of the height of each hour, and the strips
// of the rows in each hour by the plan that is asked about.
type work struct {
	Beach
	bounds []tide.Range
	plan   []strips
}

// start checks a beach.
func start(b Beach) (work, api.Errno) {
	if len(b.Rows) > api.MaxRowRows {
		return work{}, api.ErrLimit
	}
	bounds, e := tide.Bounds(b.Table)
	if e != api.OK {
		return work{}, e
	}
	if !b.isValid() {
		return work{}, api.ErrArg
	}
	return work{Beach: b, bounds: bounds}, api.OK
}

// startWith is start for a beach with a plan.
func startWith(b Beach, plan [][]Move) (work, api.Errno) {
	w, e := start(b)
	if e != api.OK {
		return work{}, e
	}
	if !w.follow(plan) {
		return work{}, api.ErrRange
	}
	return w, api.OK
}

// isValid reports whether what the table does not have is valid.
func (b Beach) isValid() bool {
	return isBelow(b.Hands, api.MaxRowHands+1) && all(b.Rows, b.validRow)
}

// validRow reports whether the strip of a row is there, and has no other row.
func (b Beach) validRow(strip int) bool {
	at := slices.Index(b.Rows, strip)
	return b.hasStrip(strip) && !slices.Contains(b.Rows[at+1:], strip)
}

func (b Beach) hasStrip(strip int) bool { return isBelow(strip, len(b.Table.Levels)) }

// first returns the strips on which the rows are at first.
func (b Beach) first() strips {
	var s strips
	for row := range s {
		s[row] = nowhere
	}
	copy(s[:], b.Rows)
	return s
}

// alone returns the beach that has this row alone.
func (w work) alone(row int) work {
	w.Rows = w.Rows[row : row+1]
	return w
}

// follow makes the moves of a plan, hour by hour, and reports whether it is one.
func (w *work) follow(plan [][]Move) bool {
	if len(plan) != w.Table.Last+1 {
		return false
	}
	s := w.first()
	for _, moves := range plan {
		if len(moves) > w.Hands {
			return false
		}
		for _, m := range moves {
			if !w.canMove(s, m) {
				return false
			}
			s[m.Row] = m.To
		}
		w.plan = append(w.plan, s)
	}
	return true
}

// canMove reports whether the move is possible with the rows on these strips.
func (w work) canMove(s strips, m Move) bool {
	if !isBelow(m.Row, len(w.Rows)) || !w.hasStrip(m.To) || slices.Contains(s[:], m.To) {
		return false
	}
	return m.To == s[m.Row]-1 || m.To == s[m.Row]+1
}

// list returns the strips of the rows in the hour as a list.
func (w work) list(hour int) []int { return slices.Clone(w.plan[hour][:len(w.Rows)]) }

// place returns where the row is in the hour.
func (w work) place(hour, row int) place {
	return place{hour, w.Table.Levels[w.plan[hour][row]]}
}

// places returns where all rows are in all hours.
func (w work) places() []place {
	var places []place
	for hour := range w.plan {
		for row := range w.Rows {
			places = append(places, w.place(hour, row))
		}
	}
	return places
}

// wetRows returns the rows that are wet in the hour.
func (w work) wetRows(t truth, hour int) []int {
	var rows []int
	for row := range w.Rows {
		if t.wets(w.place(hour, row)) {
			rows = append(rows, row)
		}
	}
	return rows
}

func (t truth) wets(p place) bool { return t[p.hour] > p.level }

// floods reports whether some place is wet.
func (t truth) floods(places []place) bool { return slices.ContainsFunc(places, t.wets) }

// spares reports whether no place is wet.
func (t truth) spares(places []place) bool { return !t.floods(places) }

// truths yields the truths of the table.
func (w work) truths() iter.Seq[truth] {
	return func(yield func(truth) bool) {
		var choose func(heights truth) bool
		choose = func(heights truth) bool {
			hour := len(heights)
			if hour > w.Table.Last {
				// A copy, because truths with the same beginning share memory.
				return !w.isTruth(heights) || yield(slices.Clone(heights))
			}
			for height := w.bounds[hour].Lo; height <= w.bounds[hour].Hi; height++ {
				if !choose(append(heights, height)) {
					return false
				}
			}
			return true
		}
		choose(nil)
	}
}

// isTruth asks about the heights in a table that has no other ones, because what is
// asked of the whole table costs time for all its lists.
func (w work) isTruth(heights truth) bool {
	t := w.Table
	t.Heights = nil
	for _, n := range heights {
		t.Heights = append(t.Heights, tide.Range{Lo: n, Hi: n})
	}
	return tide.ProveTruth(t, heights)
}

// verdict returns whether what is asked is so in each truth, in none, or in some.
func (w work) verdict(q question) int {
	yes, no := false, false
	for t := range w.truths() {
		is := q.ask(t, q.about)
		yes, no = yes || is, no || !is
	}
	switch {
	case !no:
		return Always
	case !yes:
		return Never
	}
	return Perhaps
}

// find returns a truth in which what is asked is so, and nil if there is none.
func (w work) find(q question) truth {
	for t := range w.truths() {
		if q.ask(t, q.about) {
			return t
		}
	}
	return nil
}

// isDry reports whether a place is dry in each truth.
func (w work) isDry(p place) bool { return w.bounds[p.hour].Hi <= p.level }

// danger returns the first danger of the plan, if it has one.
func (w work) danger() (first Loss, found bool) {
search:
	for hour := range w.plan {
		for row := range w.Rows {
			if p := w.place(hour, row); !w.isDry(p) {
				first = Loss{hour, row, w.find(question{truth.floods, []place{p}})}
				found = true
				break search
			}
		}
	}
	return first, found
}

// count returns the steps of a plan.
func count(plan [][]Move) int {
	steps := 0
	for _, moves := range plan {
		steps += len(moves)
	}
	return steps
}

func isBelow(n, end int) bool { return 0 <= n && n < end }

func all[T any](list []T, holds func(T) bool) bool {
	for _, x := range list {
		if !holds(x) {
			return false
		}
	}
	return true
}

func minimum(first int, more ...int) int {
	for _, n := range more {
		first = min(first, n)
	}
	return first
}
