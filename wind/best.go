package wind

import (
	"iter"
	"slices"

	"foreshore/api"
)

// moment is the beginning of an hour, with where the rows face before they are
// turned in it, and the work that is left.
type moment struct {
	hour int
	rows facing
	left int
}

// search is the search for the best plan, with what was found: most moments, and
// most directions of the rows in an hour, are reached in several ways.
type search struct {
	site
	goods  [api.MaxWindLast + 1]map[facing]int
	totals map[moment]int
}

func searchOf(s site) search {
	f := search{site: s, totals: map[moment]int{}}
	for hour := range f.goods {
		f.goods[hour] = map[facing]int{}
	}
	return f
}

// turns yields the moments after an hour: one for each way to turn the rows in
// it with the work that is left.
func (s site) turns(m moment) iter.Seq[moment] {
	return func(yield func(moment) bool) {
		var turn func(next moment, row int) bool
		turn = func(next moment, row int) bool {
			if row == s.Rows {
				return yield(next)
			}
			left := next.left
			for to := range directions {
				next.rows[row], next.left = to, left-s.turning(m.rows[row], to)
				if next.left >= 0 && !turn(next, row+1) {
					return false
				}
			}
			return true
		}
		turn(moment{m.hour + 1, m.rows, m.left}, 0)
	}
}

// good returns how many places are surely good in an hour in which the rows face
// so.
func (f search) good(hour int, rows facing) int {
	known := f.goods[hour]
	many, ok := known[rows]
	if !ok {
		var p schedule
		p[hour] = rows
		many = f.bounds(p, question{f.places(), Range{hour, hour}, Hours.good}).Lo
		known[rows] = many
	}
	return many
}

// totalBy returns the best total from a moment on, if the rows are turned so
// that the next one is reached.
func (f search) totalBy(m, next moment) int { return f.good(m.hour, next.rows) + f.best(next) }

// best returns the best total from a moment on.
func (f search) best(m moment) int {
	if m.hour > f.Last {
		return 0
	}
	total, ok := f.totals[m]
	if !ok {
		for next := range f.turns(m) {
			total = max(total, f.totalBy(m, next))
		}
		f.totals[m] = total
	}
	return total
}

// plan returns a plan with the best total from the first moment on.
func (f search) plan(m moment) [][]int {
	var plan [][]int
	for range f.Last + 1 {
		for next := range f.turns(m) {
			if f.totalBy(m, next) == f.best(m) {
				plan = append(plan, slices.Clone(next.rows[:f.Rows]))
				m = next
				break
			}
		}
	}
	return plan
}
