// Package count finds out where chairs are in a row of places, by counts from
// both ends of which some are wrong: see shared/doc/01-count.md.
package count

import (
	"slices"

	"foreshore/api"
)

// Range has all whole numbers from Lo to Hi, both included.
type Range struct{ Lo, Hi int }

// Count is a count of the chairs in the first Many places, or with Back in the
// last Many ones.
type Count struct {
	Back         bool
	Many, Number int
}

// Row is a row of places (0 without a chair, 1 with one, 2 not known), with
// counts of which at most Wrong are wrong, and none by more than Off.
type Row struct {
	Places     []int
	Counts     []Count
	Wrong, Off int
}

// The verdicts of Places and Right.
const (
	Always  = 1
	Never   = 2
	Perhaps = 3
)

// CheckRow returns the error of the row, or OK.
func CheckRow(r Row) api.Errno {
	if len(r.Places) > api.MaxCountPlaces || len(r.Counts) > api.MaxCountCounts {
		return api.ErrLimit
	}
	w := work{Row: r}
	valid := len(r.Places) > 0 &&
		all(r.Places, validPlace) &&
		all(r.Counts, w.validCount) &&
		upTo(r.Wrong, api.MaxCountCounts) &&
		upTo(r.Off, api.MaxCountPlaces)
	if !valid {
		return api.ErrArg
	}
	return api.OK
}

// Play returns the error of each count in the truth.
func Play(r Row, truth []int) ([]int, api.Errno) {
	if e := CheckRow(r); e != api.OK {
		return nil, e
	}
	w := work{Row: r}
	c, ok := w.read(truth)
	if !ok {
		return nil, api.ErrRange
	}
	return w.mistakes(c), api.OK
}

// Chairs returns the bounds of the number of chairs in the places from the
// first one to the second one, both included.
func Chairs(r Row, from, to int) (Range, api.Errno) {
	p := part{from, to}
	w, e := start(r, p)
	if e != api.OK {
		return Range{}, e
	}
	return w.bounds(question{work.chairsIn, p}), api.OK
}

// Places returns for each place whether it has a chair.
func Places(r Row) ([]int, api.Errno) {
	w, e := start(r, whole(r))
	if e != api.OK {
		return nil, e
	}
	return w.verdicts(len(w.Places), work.chairsIn), api.OK
}

// Right returns for each count whether it is right.
func Right(r Row) ([]int, api.Errno) {
	w, e := start(r, whole(r))
	if e != api.OK {
		return nil, e
	}
	return w.verdicts(len(w.Counts), work.rightIn), api.OK
}

// Least returns the least number of wrong counts, whatever Wrong is.
func Least(r Row) (int, api.Errno) {
	if e := CheckRow(r); e != api.OK {
		return 0, e
	}
	// With all counts allowed to be wrong, each truth that explains them is one
	// of the row.
	r.Wrong = len(r.Counts)
	w, e := start(r, whole(r))
	if e != api.OK {
		return 0, api.ErrShort
	}
	right := w.bounds(question{work.rightIn, part{0, len(r.Counts) - 1}})
	return len(r.Counts) - right.Hi, api.OK
}

// Look returns the place to look at first, and the greater one of the numbers
// of truths that are left after it.
func Look(r Row) (place, left int, e api.Errno) {
	w, e := start(r, whole(r))
	if e != api.OK {
		return 0, 0, e
	}
	var lefts []int
	for i := range len(w.Places) {
		lefts = append(lefts, w.leftAfter(i))
	}
	left = minimum(len(w.truths), lefts...)
	return slices.Index(lefts, left), left, api.OK
}

// Looks returns the looks that are needed for all truths of the row, and the
// part of the places from the first one to the second one.
func Looks(r Row, from, to int) (int, api.Errno) {
	p := part{from, to}
	w, e := start(r, p)
	if e != api.OK {
		return 0, e
	}
	l, truths := w.beginLooking(p)
	return l.needed(truths), api.OK
}

// ProveTruth reports whether the row is valid, and the list is a truth of it.
func ProveTruth(r Row, truth []int) bool {
	return prove(r, truth, r.Wrong)
}

// ProveLeast reports whether the row is valid, and the list is a truth that
// explains the counts, of which at most so many are wrong in it.
func ProveLeast(r Row, truth []int, many int) bool {
	return prove(r, truth, many)
}

func prove(r Row, truth []int, wrong int) bool {
	if CheckRow(r) != api.OK {
		return false
	}
	w := work{Row: r}
	// Only now, because a row with such a Wrong need not be valid: ProveLeast
	// may be asked about any number.
	w.Wrong = wrong
	c, ok := w.read(truth)
	return ok && w.isOwn(c)
}
