package row

import (
	"iter"
	"slices"
)

// moment has the strips on which the rows are after so many hours.
type moment struct {
	hours  int
	strips strips
}

// search has the moments that are reached with all rows surely dry in the hours before
// them, in the order of their hours, and the fewest steps to each of them.
type search struct {
	work
	moments []moment
	steps   map[moment]int
}

// search finds all moments that can be reached.
func (w work) search() search {
	begin := moment{strips: w.first()}
	s := search{w, []moment{begin}, map[moment]int{begin: 0}}
	// Moments are met hour by hour, so the steps to one are the fewest by the time the
	// search goes on from it.
	for i := 0; i < len(s.moments); i++ {
		from := s.moments[i]
		for moves, to := range s.turns(from) {
			s.meet(moment{from.hours + 1, to}, s.steps[from]+len(moves))
		}
	}
	return s
}

// meet notes that the moment is reached with so many steps.
func (s *search) meet(m moment, steps int) {
	known, met := s.steps[m]
	if !met {
		s.moments = append(s.moments, m)
	}
	if !met || steps < known {
		s.steps[m] = steps
	}
}

// turns yields the lists of moves that can be made at the beginning of the next hour,
// and after which all rows are surely dry in it, with the strips of the rows then.
func (w work) turns(from moment) iter.Seq2[[]Move, strips] {
	return func(yield func([]Move, strips) bool) {
		if from.hours > w.Table.Last {
			return
		}
		var choose func(moves []Move, s strips) bool
		choose = func(moves []Move, s strips) bool {
			// A copy, because lists with the same beginning share memory.
			if w.areDry(from.hours, s) && !yield(slices.Clone(moves), s) {
				return false
			}
			if len(moves) == w.Hands {
				return true
			}
			for m := range w.moves(s) {
				after := s
				after[m.Row] = m.To
				if !choose(append(moves, m), after) {
					return false
				}
			}
			return true
		}
		choose(nil, from.strips)
	}
}

// moves yields the moves that are possible with the rows on these strips.
func (w work) moves(s strips) iter.Seq[Move] {
	return func(yield func(Move) bool) {
		for row := range w.Rows {
			for _, to := range []int{s[row] - 1, s[row] + 1} {
				m := Move{row, to}
				if w.canMove(s, m) && !yield(m) {
					return
				}
			}
		}
	}
}

// areDry reports whether all rows are surely dry on these strips in the hour.
func (w work) areDry(hour int, s strips) bool {
	return all(s[:len(w.Rows)], func(strip int) bool { return w.isDry(place{hour, w.Table.Levels[strip]}) })
}

// longest returns the longest time.
func (s search) longest() int { return s.moments[len(s.moments)-1].hours }

// lasts reports whether all rows can be kept surely dry in all hours.
func (s search) lasts() bool { return s.longest() > s.Table.Last }

// bestEnd returns the moment after all hours that has the fewest steps, of a search
// that lasts.
func (s search) bestEnd() moment {
	ends := slices.DeleteFunc(slices.Clone(s.moments), func(m moment) bool { return m.hours < s.longest() })
	var steps []int
	for _, m := range ends {
		steps = append(steps, s.steps[m])
	}
	return ends[slices.Index(steps, minimum(steps[0], steps...))]
}

// planTo returns the moves of all hours before the moment, with the fewest steps to it.
func (s search) planTo(m moment) [][]Move {
	plan := make([][]Move, m.hours)
	for m.hours > 0 {
		moves, before := s.lastTurn(m)
		plan[before.hours] = moves
		m = before
	}
	return plan
}

// lastTurn returns the moves of the last hour before the moment, and the moment from
// which they lead to it with the fewest steps.
func (s search) lastTurn(m moment) ([]Move, moment) {
	for _, from := range s.moments {
		if from.hours+1 != m.hours {
			continue
		}
		for moves, to := range s.turns(from) {
			if to == m.strips && s.steps[from]+len(moves) == s.steps[m] {
				return moves, from
			}
		}
	}
	return nil, moment{}
}
