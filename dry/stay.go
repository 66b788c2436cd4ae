package dry

import "foreshore/api"

// hours says of each hour whether something is so in it, and false for hours that
// the table does not have, so that equal hours are equal arrays.
type hours [api.MaxTideLast + 1]bool

// before returns those of the hours that are before the given one.
func (h hours) before(hour int) hours {
	clear(h[hour:])
	return h
}

// list returns the hours in which it is so.
func (h hours) list() []int {
	var list []int
	for hour, is := range h {
		if is {
			list = append(list, hour)
		}
	}
	return list
}

// stay has the hours in which a chair is wet, the hour in which it rots (one after
// the last one, if it does not), and the hours in which it can be hired.
type stay struct {
	wet  hours
	rot  int
	free hours
}

// stay returns the stay of a chair that is wet in these hours.
func (c Chair) stay(wet hours, last int) stay {
	s := stay{wet: wet, rot: last + 1}
	wetFor, dryFrom := 0, 0
	for hour := range last + 1 {
		if wet[hour] {
			wetFor, dryFrom = wetFor+1, hour+c.Hours+1
		} else {
			wetFor = 0
		}
		if wetFor == c.Rot {
			s.rot = min(s.rot, hour)
		}
		s.free[hour] = hour >= dryFrom && hour < s.rot
	}
	return s
}

// told returns the stay as Play tells it.
func (s stay) told() Stay {
	return Stay{Wet: len(s.wet.list()), Rot: s.rot, Free: s.free.list()}
}

// freeIn returns 1 if the chair can be hired in the hour, and 0 if it cannot.
func (s stay) freeIn(hour int) int {
	if s.free[hour] {
		return 1
	}
	return 0
}

func (s stay) freeHours(_ int) int { return len(s.free.list()) }
