package book

import (
	"cmp"
	"slices"
	"strconv"
	"strings"

	"foreshore/api"
	"foreshore/count"
	"foreshore/mend"
	"foreshore/tide"
	"foreshore/token"
)

const (
	mostDigits = 3  // of a number
	mostWidth  = 2  // of the heights of an hour
	unknown    = 2  // of a place, and of a part
	unread     = -1 // of a token
)

// work is a state that is being changed, with the errors of the lines up to now.
type work struct {
	State
	errors []api.Errno
}

// limit is the greatest number of bytes that a line may have.
type limit int

// span is a range of any layer.
type span struct{ Lo, Hi int }

// begin returns the state at first.
func begin() work {
	return work{State: State{
		Row:   count.Row{Places: slices.Repeat([]int{unknown}, 4), Off: 1},
		Table: tide.Table{Last: 3, Heights: slices.Repeat([]tide.Range{{Lo: 5, Hi: 5}}, 4), Step: 5},
		Book:  token.Book{Chairs: 3, Coin: 5, Box: 20},
		Yard:  mend.Yard{Fit: 1},
	}}
}

// isSession reports whether the lines are neither too many nor too long.
func isSession(lines []string) bool {
	return len(lines) <= api.MaxBookSession && all(lines, limit(api.MaxBookLine).allows)
}

func (l limit) allows(line string) bool { return len(line) <= int(l) }

// play executes lines, one after the other.
func (w *work) play(lines []string) {
	for _, line := range lines {
		e := w.execute(line)
		w.errors = append(w.errors, e)
	}
}

// execute executes a line, and returns its error. No list of the state is written to, so
// that the state before the line is enough to take back what a refused line has done.
func (w *work) execute(line string) (e api.Errno) {
	before := w.State
	defer func() {
		switch thrown := recover().(type) {
		case nil:
			return
		case api.Errno:
			e = thrown
		default:
			// No call panics, so a line that cannot be executed makes no sense.
			e = api.ErrForm
		}
		w.State = before
	}()
	x, numbers := read(line)
	x.do(w, numbers)
	flaw := w.flaw()
	must(flaw, flaw == api.OK)
	return api.OK
}

// read returns the word of the line, and its numbers.
func read(line string) (x word, numbers []int) {
	parts := strings.Split(line, " ")
	x, known := words()[parts[0]]
	must(api.ErrForm, known, len(parts) == 1+x.numbers, all(parts[1:], isNumber))
	for _, part := range parts[1:] {
		n, _ := strconv.Atoi(part)
		numbers = append(numbers, n)
	}
	return x, numbers
}

func isNumber(s string) bool {
	if len(s) == 0 || len(s) > mostDigits || !all([]byte(s), isDigit) {
		return false
	}
	return s[0] != '0' || len(s) == 1
}

func isDigit(b byte) bool { return '0' <= b && b <= '9' }

// flaw returns OK if the state stands, and otherwise the error that says why not. Each
// layer checks its part in the order in which the chapter asks for it.
func (s State) flaw() api.Errno {
	_, row := s.chairs()
	_, table := tide.Bounds(s.Table)
	book := token.CheckBook(s.Book)
	_, yard := mend.Bounds(s.Yard)
	return cmp.Or(row, table, book, yard)
}

// chairs returns the bounds of the chairs in all places of the Row.
func (s State) chairs() (count.Range, api.Errno) {
	return count.Chairs(s.Row, 0, len(s.Row.Places)-1)
}

// money returns the bounds of the money after all lines of the Book.
func (s State) money() (token.Range, api.Errno) {
	return token.Money(s.Book, len(s.Book.Lines))
}

func (s span) isUpTo(end int) bool { return s.Lo <= s.Hi && s.Hi <= end }

func (s span) text() string { return strconv.Itoa(s.Lo) + ".." + strconv.Itoa(s.Hi) }

// must ends the line with the error unless all conditions hold.
func must(e api.Errno, conditions ...bool) {
	if slices.Contains(conditions, false) {
		panic(e)
	}
}

func all[T any](list []T, holds func(T) bool) bool {
	for _, x := range list {
		if !holds(x) {
			return false
		}
	}
	return true
}
