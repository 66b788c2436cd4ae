package book

import (
	"slices"

	"foreshore/api"
	"foreshore/count"
	"foreshore/mend"
	"foreshore/tide"
	"foreshore/token"
)

// word is how many numbers a line with this word has, and what it does with them.
type word struct {
	numbers int
	do      func(w *work, n []int)
}

// words returns all words that a line can begin with.
func words() map[string]word {
	return map[string]word{
		"place":   {0, (*work).place},
		"seen":    {2, (*work).seen},
		"count":   {2, (*work).count},
		"back":    {2, (*work).back},
		"uncount": {1, (*work).uncount},
		"wrong":   {1, (*work).wrong},
		"off":     {1, (*work).off},
		"tide":    {3, (*work).tide},
		"step":    {1, (*work).step},
		"level":   {1, (*work).level},
		"raise":   {2, (*work).raise},
		"mark":    {4, (*work).mark},
		"unmark":  {1, (*work).unmark},
		"hire":    {2, (*work).hire},
		"bring":   {2, (*work).bring},
		"smudge":  {1, (*work).smudge},
		"strike":  {1, (*work).strike},
		"broken":  {4, (*work).broken},
		"part":    {3, (*work).part},
		"fit":     {1, (*work).fit},
		"claim":   {2, (*work).claim},
		"unclaim": {1, (*work).unclaim},
	}
}

// Each word has the method of its name.

func (w *work) place([]int) {
	w.Row.Places = with(w.Row.Places, unknown, api.MaxBookPlaces)
}

func (w *work) seen(n []int) {
	place, value := n[0], n[1]
	must(api.ErrNone, place < len(w.Row.Places))
	must(api.ErrRange, value <= unknown)
	w.Row.Places = put(w.Row.Places, place, value)
}

func (w *work) count(n []int) {
	w.enter(count.Count{Many: n[0], Number: n[1]})
}

func (w *work) back(n []int) {
	w.enter(count.Count{Back: true, Many: n[0], Number: n[1]})
}

func (w *work) enter(c count.Count) {
	must(api.ErrRange, c.Many <= len(w.Row.Places), c.Number <= api.MaxCountPlaces)
	w.Row.Counts = with(w.Row.Counts, c, api.MaxCountCounts)
}

func (w *work) uncount(n []int) {
	w.Row.Counts = without(w.Row.Counts, n[0])
}

func (w *work) wrong(n []int) {
	must(api.ErrRange, n[0] <= api.MaxCountCounts)
	w.Row.Wrong = n[0]
}

func (w *work) off(n []int) {
	must(api.ErrRange, n[0] <= api.MaxCountPlaces)
	w.Row.Off = n[0]
}

func (w *work) tide(n []int) {
	hour, heights := n[0], span{n[1], n[2]}
	must(api.ErrNone, hour <= w.Table.Last)
	must(api.ErrRange, heights.isUpTo(api.MaxTideHeight), heights.Hi-heights.Lo <= mostWidth)
	w.Table.Heights = put(w.Table.Heights, hour, tide.Range(heights))
}

func (w *work) step(n []int) {
	must(api.ErrRange, n[0] <= api.MaxTideHeight)
	w.Table.Step = n[0]
}

func (w *work) level(n []int) {
	must(api.ErrRange, n[0] <= api.MaxTideHeight)
	w.Table.Levels = with(w.Table.Levels, n[0], api.MaxTideRows)
}

func (w *work) raise(n []int) {
	row, level := n[0], n[1]
	must(api.ErrNone, row < len(w.Table.Levels))
	must(api.ErrRange, level <= api.MaxTideHeight)
	w.Table.Levels = put(w.Table.Levels, row, level)
}

func (w *work) mark(n []int) {
	from, to, highest := n[0], n[1], span{n[2], n[3]}
	must(api.ErrNone, from <= w.Table.Last, to <= w.Table.Last)
	must(api.ErrRange, from <= to, highest.isUpTo(api.MaxTideHeight))
	w.Table.Marks = with(w.Table.Marks, tide.Mark{From: from, To: to, Highest: tide.Range(highest)}, api.MaxTideMarks)
}

func (w *work) unmark(n []int) {
	w.Table.Marks = without(w.Table.Marks, n[0])
}

func (w *work) hire(n []int) {
	w.write(token.Line{Kind: token.Hire, Chair: n[0], Token: n[1]})
}

func (w *work) bring(n []int) {
	w.write(token.Line{Kind: token.Return, Chair: n[0], Token: n[1]})
}

func (w *work) write(l token.Line) {
	must(api.ErrNone, l.Chair < w.Book.Chairs, l.Token < w.Book.Chairs)
	w.Book.Lines = with(w.Book.Lines, l, api.MaxTokenLines)
}

func (w *work) smudge(n []int) {
	must(api.ErrNone, n[0] < len(w.Book.Lines))
	l := w.Book.Lines[n[0]]
	must(api.ErrTwice, l.Token != unread)
	l.Token = unread
	w.Book.Lines = put(w.Book.Lines, n[0], l)
}

func (w *work) strike(n []int) {
	w.Book.Lines = without(w.Book.Lines, n[0])
}

func (w *work) broken(n []int) {
	c := mend.Chair{Size: n[0], Parts: mend.Parts(n[1:])}
	must(api.ErrRange, c.Size <= api.MaxMendSize, all(c.Parts[:], isPart))
	w.Yard.Chairs = with(w.Yard.Chairs, c, api.MaxBookChairs)
}

func (w *work) part(n []int) {
	chair, part, value := n[0], n[1], n[2]
	must(api.ErrNone, chair < len(w.Yard.Chairs), part < len(mend.Parts{}))
	must(api.ErrRange, isPart(value))
	c := w.Yard.Chairs[chair]
	c.Parts[part] = value
	w.Yard.Chairs = put(w.Yard.Chairs, chair, c)
}

func (w *work) fit(n []int) {
	must(api.ErrRange, n[0] <= api.MaxMendSize)
	w.Yard.Fit = n[0]
}

func (w *work) claim(n []int) {
	many := span{n[0], n[1]}
	must(api.ErrRange, many.isUpTo(api.MaxMendChairs))
	w.Yard.Claims = with(w.Yard.Claims, mend.Range(many), api.MaxMendClaims)
}

func (w *work) unclaim(n []int) {
	w.Yard.Claims = without(w.Yard.Claims, n[0])
}

func isPart(value int) bool { return value <= unknown }

// with returns the list with one more element; ErrLimit if it has the most ones already.
func with[T any](list []T, x T, most int) []T {
	must(api.ErrLimit, len(list) < most)
	return slices.Concat(list, []T{x})
}

// without returns the list without the element; ErrNone if it has no such one.
func without[T any](list []T, n int) []T {
	must(api.ErrNone, n < len(list))
	return slices.Concat(list[:n], list[n+1:])
}

// put returns the list with another element in the place of an old one.
func put[T any](list []T, n int, x T) []T {
	list = slices.Clone(list)
	list[n] = x
	return list
}
