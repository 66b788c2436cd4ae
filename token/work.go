package token

import (
	"iter"
	"math/bits"
	"slices"

	"foreshore/api"
)

// What a line has in place of a sign that cannot be read.
const (
	unreadKind   = 0
	unreadNumber = -1
)

// thing is a chair, or a token: these come behind as many chairs as a book can
// have.
type thing int

const (
	firstChair thing = 0
	firstToken thing = api.MaxTokenChairs
	things           = 2 * api.MaxTokenChairs
)

// hires has for each thing by which line it was hired, counted from 1, and 0 if
// it is at the stand.
type hires [things]int

// moment is what is so after some lines: who hired each thing, the money, the
// number of mixed returns, and the last one of the lines.
type moment struct {
	lines  int
	hired  hires
	box    int
	mixups int
	last   Line
}

// truth has the moments after 0, 1, .. and all lines.
type truth [api.MaxTokenLines + 1]moment

// point is what is out after so many lines. The money is known with it, so what
// can follow is the same in all moments of a point.
type point struct {
	lines int
	out   [things]bool
}

// work is a book at work, with what was found out of what can follow: most
// points are reached in several ways.
type work struct {
	Book
	follows map[point]bool
}

// question is what is bounded: a number that the moment after so many lines
// has.
type question struct {
	after int
	ask   func(m moment) int
}

func begin(b Book) work {
	return work{Book: b, follows: map[point]bool{}}
}

// start checks a book, and that it has a truth. Whether what is asked about is
// there is told by the caller, because this error comes in between.
func start(b Book, isThere bool) (work, api.Errno) {
	if e := CheckBook(b); e != api.OK {
		return work{}, e
	}
	if !isThere {
		return work{}, api.ErrRange
	}
	w := begin(b)
	if !w.hasTruth() {
		return work{}, api.ErrFalse
	}
	return w, api.OK
}

// isValid reports whether the book is valid, however many readings it has.
func (w work) isValid() bool {
	return Range{1, api.MaxTokenChairs}.has(w.Chairs) &&
		Range{1, api.MaxTokenCoin}.has(w.Coin) &&
		upTo(w.Box, api.MaxTokenBox) &&
		all(w.Lines, w.validLine) &&
		all(w.Counts, w.validCount)
}

func (w work) validLine(l Line) bool {
	return Range{unreadKind, Return}.has(l.Kind) &&
		Range{unreadNumber, w.Chairs - 1}.has(l.Chair) &&
		Range{unreadNumber, w.Chairs - 1}.has(l.Token)
}

func (w work) validCount(k Count) bool {
	return upTo(k.After, len(w.Lines)) &&
		upTo(k.Money.Lo, k.Money.Hi) &&
		upTo(k.Money.Hi, api.MaxTokenMoney)
}

// signs returns what the signs of a line can be.
func (w work) signs(l Line) (kinds, chairs, tokens Range) {
	kinds, chairs, tokens = Range{l.Kind, l.Kind}, Range{l.Chair, l.Chair}, Range{l.Token, l.Token}
	if l.Kind == unreadKind {
		kinds = Range{Hire, Return}
	}
	if l.Chair == unreadNumber {
		chairs = Range{0, w.Chairs - 1}
	}
	if l.Token == unreadNumber {
		tokens = Range{0, w.Chairs - 1}
	}
	return kinds, chairs, tokens
}

// allReadings returns the readings of all lines, multiplied.
func (w work) allReadings() int {
	many := 1
	for _, l := range w.Lines {
		kinds, chairs, tokens := w.signs(l)
		many *= kinds.size() * chairs.size() * tokens.size()
	}
	return many
}

// readings yields what a line can be, by increasing Kind, then Chair, then
// Token.
func (w work) readings(l Line) iter.Seq[Line] {
	return func(yield func(Line) bool) {
		kinds, chairs, tokens := w.signs(l)
		for kind := kinds.Lo; kind <= kinds.Hi; kind++ {
			for chair := chairs.Lo; chair <= chairs.Hi; chair++ {
				for token := tokens.Lo; token <= tokens.Hi; token++ {
					if !yield(Line{kind, chair, token}) {
						return
					}
				}
			}
		}
	}
}

// opening returns the moment before all lines.
func (w work) opening() moment { return moment{box: w.Box} }

// after returns the moment after one more line, and whether the line is
// possible.
func (w work) after(m moment, l Line) (moment, bool) {
	before := m.hired
	chair, token := &m.hired[firstChair+thing(l.Chair)], &m.hired[firstToken+thing(l.Token)]
	m.lines++
	m.last = l
	switch {
	case l.Kind == Hire && *chair == 0 && *token == 0:
		*chair, *token = m.lines, m.lines
		m.box += w.Coin
	case l.Kind == Return && *chair != 0 && *token != 0:
		if *chair != *token {
			m.mixups++
		}
		*chair, *token = 0, 0
		m.box -= w.Coin
	}
	// Each line that is possible moves a chair and a token.
	return m, m.hired != before
}

// nexts yields the moments that the next line can lead to.
func (w work) nexts(m moment) iter.Seq[moment] {
	return func(yield func(moment) bool) {
		for l := range w.readings(w.Lines[m.lines]) {
			if next, ok := w.after(m, l); ok && !yield(next) {
				return
			}
		}
	}
}

// isRight reports whether the counts of this moment are right.
func (w work) isRight(m moment) bool { return all(w.Counts, m.agrees) }

func (m moment) agrees(k Count) bool {
	return k.After != m.lines || k.Money.has(m.box)
}

func (m moment) point() point {
	p := point{lines: m.lines}
	for i, line := range m.hired {
		p.out[i] = line != 0
	}
	return p
}

// canBe reports whether the counts of this moment are right, and the lines
// after it can be read so that those that follow are right, too.
func (w work) canBe(m moment) bool {
	p := m.point()
	can, ok := w.follows[p]
	if !ok {
		can = w.isRight(m) && (m.lines == len(w.Lines) || some(w.nexts(m), w.canBe))
		w.follows[p] = can
	}
	return can
}

func (w work) hasTruth() bool { return w.canBe(w.opening()) }

// truths yields the truths of the book.
func (w work) truths() iter.Seq[truth] {
	return func(yield func(truth) bool) {
		var t truth
		var read func(m moment) bool
		read = func(m moment) bool {
			if !w.canBe(m) {
				return true
			}
			t[m.lines] = m
			if m.lines == len(w.Lines) {
				return yield(t)
			}
			for next := range w.nexts(m) {
				if !read(next) {
					return false
				}
			}
			return true
		}
		read(w.opening())
	}
}

// follow returns the moments of a list of lines, if it is a truth and possible,
// whether the counts are right in it or not.
func (w work) follow(list []Line) (truth, bool) {
	if len(list) != len(w.Lines) {
		return truth{}, false
	}
	var t truth
	m := w.opening()
	t[0] = m
	for i, l := range list {
		is := some(w.readings(w.Lines[i]), func(r Line) bool { return r == l })
		if !is {
			return truth{}, false
		}
		next, ok := w.after(m, l)
		if !ok {
			return truth{}, false
		}
		m = next
		t[m.lines] = m
	}
	return t, true
}

func (m moment) money() int { return m.box }

func (m moment) mixed() int { return m.mixups }

// isOut returns 1 if the thing is out, otherwise 0.
func (x thing) isOut(m moment) int { return min(m.hired[x], 1) }

// bounds returns the bounds of what is asked in all truths.
func (w work) bounds(q question) Range {
	var answers []int
	for t := range w.truths() {
		answers = append(answers, q.ask(t[q.after]))
	}
	return Range{minimum(answers[0], answers...), slices.Max(answers)}
}

// verdicts returns for each chair, or token, whether it is out after so many
// lines.
func (w work) verdicts(after int, first thing) []int {
	var list []int
	for i := range w.Chairs {
		x := first + thing(i)
		list = append(list, verdict(w.bounds(question{after, x.isOut})))
	}
	return list
}

func verdict(r Range) int {
	switch r {
	case Range{1, 1}:
		return Always
	case Range{0, 0}:
		return Never
	}
	return Perhaps
}

// was returns what the line is in some truth.
func (w work) was(line int) []Line {
	met := map[Line]bool{}
	for t := range w.truths() {
		met[t[line+1].last] = true
	}
	var list []Line
	for l := range w.readings(w.Lines[line]) {
		if met[l] {
			list = append(list, l)
		}
	}
	return list
}

// smallestSet returns the smallest set of lines that can be left out, if any
// set can.
func (w work) smallestSet() (set []int, ok bool) {
search:
	for many := range len(w.Lines) + 1 {
		for left := range sets(len(w.Lines), many) {
			if begin(w.without(left)).hasTruth() {
				set, ok = left, true
				break search
			}
		}
	}
	return set, ok
}

// without returns the book without the lines of the set.
func (w work) without(set []int) Book {
	b := w.Book
	b.Lines, b.Counts = nil, nil
	for i, l := range w.Lines {
		if !slices.Contains(set, i) {
			b.Lines = append(b.Lines, l)
		}
	}
	for _, k := range w.Counts {
		gone, _ := slices.BinarySearch(set, k.After)
		k.After -= gone
		b.Counts = append(b.Counts, k)
	}
	return b
}

// sets yields the increasing lists of so many numbers from 0 on that are below
// the end, in their lexicographic order.
func sets(end, many int) iter.Seq[[]int] {
	return func(yield func([]int) bool) {
		// With 0 as the highest bit, and as many bits, the greater code is that
		// of the list that comes first.
		for code := 1<<end - 1; code >= 0; code-- {
			if bits.OnesCount(uint(code)) == many && !yield(numbers(code, end)) {
				return
			}
		}
	}
}

// numbers returns the numbers below the end whose bits are in the code.
func numbers(code, end int) []int {
	var list []int
	for i := range end {
		if code>>(end-1-i)&1 == 1 {
			list = append(list, i)
		}
	}
	return list
}

func (r Range) size() int { return r.Hi - r.Lo + 1 }

func (r Range) has(n int) bool { return r.Lo <= n && n <= r.Hi }

func upTo(n, most int) bool { return Range{0, most}.has(n) }

func all[T any](list []T, holds func(T) bool) bool {
	for _, x := range list {
		if !holds(x) {
			return false
		}
	}
	return true
}

func some[T any](seq iter.Seq[T], holds func(T) bool) bool {
	for x := range seq {
		if holds(x) {
			return true
		}
	}
	return false
}

func minimum(first int, more ...int) int {
	for _, n := range more {
		first = min(first, n)
	}
	return first
}
