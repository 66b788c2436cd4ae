package token_test

import (
	"math"
	"slices"
	"testing"

	"foreshore/api"
	"foreshore/token"
)

// changed returns the book of the example with four lines and a count, after a
// change.
func changed(f func(b *token.Book)) token.Book {
	b := example(4, counted(2, 30, 30))
	f(&b)
	return b
}

// free is a line of which nothing can be read.
var free = line(0, -1, -1)

type flawed struct {
	name string
	book token.Book
	want api.Errno
}

// limited are books at the limits and above them.
func limited() []flawed {
	return []flawed{
		{"valid", changed(func(b *token.Book) {}), api.OK},
		{"no lines", changed(func(b *token.Book) { b.Lines, b.Counts = nil, nil }), api.OK},
		{"most lines", book(1, make([]token.Line, 8)), api.OK},
		{"too many lines", book(1, make([]token.Line, 9)), api.ErrLimit},
		{"most counts", changed(func(b *token.Book) { b.Counts = make([]token.Count, 4) }), api.OK},
		{"too many counts", changed(func(b *token.Book) { b.Counts = make([]token.Count, 5) }), api.ErrLimit},
		{"most readings", book(4, lines(free, free, hire(0, -1))), api.OK},
		{"most readings, of two by two", book(2, lines(free, free, free, free)), api.OK},
		{"one sign more", book(4, lines(free, free, hire(0, -1), line(0, 1, 1))), api.ErrLimit},
		{"a kind more", book(4, lines(free, free, line(0, 0, -1))), api.ErrLimit},
		{"a chair more", book(4, lines(free, free, hire(-1, -1))), api.ErrLimit},
		{"3 to the 8th readings", book(3, slices.Repeat(lines(hire(0, -1)), 8)), api.ErrLimit},
		{"3 to the 7th readings", book(3, slices.Repeat(lines(hire(0, -1)), 7)), api.OK},
		{"2 times 3 to the 7th readings", book(3, append(slices.Repeat(lines(hire(0, -1)), 7), line(0, 0, 0))), api.ErrLimit},
		{"all signs of most lines", book(4, slices.Repeat(lines(free), 8)), api.ErrLimit},
		{"all signs of the only chair", book(1, slices.Repeat(lines(free), 8)), api.OK},
	}
}

// invalid are books that are not valid otherwise, and ones that are just so.
func invalid() []flawed {
	return []flawed{
		{"no book", token.Book{}, api.ErrArg},
		{"least book", token.Book{Chairs: 1, Coin: 1}, api.OK},
		{"no chairs", changed(func(b *token.Book) { b.Chairs = 0 }), api.ErrArg},
		{"no chairs and lines", book(0, nil), api.ErrArg},
		{"chairs -1", book(-1, nil), api.ErrArg},
		{"most chairs", book(4, nil), api.OK},
		{"too many chairs", book(5, nil), api.ErrArg},
		{"too few chairs for the lines", changed(func(b *token.Book) { b.Chairs = 1 }), api.ErrArg},
		{"coin 0", changed(func(b *token.Book) { b.Coin = 0 }), api.ErrArg},
		{"coin -1", changed(func(b *token.Book) { b.Coin = -1 }), api.ErrArg},
		{"coin 1", changed(func(b *token.Book) { b.Coin = 1 }), api.OK},
		{"coin 99", changed(func(b *token.Book) { b.Coin = 99 }), api.OK},
		{"coin 100", changed(func(b *token.Book) { b.Coin = 100 }), api.ErrArg},
		{"box -1", changed(func(b *token.Book) { b.Box = -1 }), api.ErrArg},
		{"box 0", changed(func(b *token.Book) { b.Box = 0 }), api.OK},
		{"box 999", changed(func(b *token.Book) { b.Box = 999 }), api.OK},
		{"box 1000", changed(func(b *token.Book) { b.Box = 1000 }), api.ErrArg},
		{"kind -1", changed(func(b *token.Book) { b.Lines[3].Kind = -1 }), api.ErrArg},
		{"kind 0", changed(func(b *token.Book) { b.Lines[3].Kind = 0 }), api.OK},
		{"kind 2", changed(func(b *token.Book) { b.Lines[3].Kind = 2 }), api.OK},
		{"kind 3", changed(func(b *token.Book) { b.Lines[3].Kind = 3 }), api.ErrArg},
		{"chair -2", changed(func(b *token.Book) { b.Lines[3].Chair = -2 }), api.ErrArg},
		{"chair -1", changed(func(b *token.Book) { b.Lines[3].Chair = -1 }), api.OK},
		{"chair 2", changed(func(b *token.Book) { b.Lines[3].Chair = 2 }), api.OK},
		{"chair 3", changed(func(b *token.Book) { b.Lines[3].Chair = 3 }), api.ErrArg},
		{"token -2", changed(func(b *token.Book) { b.Lines[0].Token = -2 }), api.ErrArg},
		{"token -1", changed(func(b *token.Book) { b.Lines[0].Token = -1 }), api.OK},
		{"token 2", changed(func(b *token.Book) { b.Lines[0].Token = 2 }), api.OK},
		{"token 3", changed(func(b *token.Book) { b.Lines[0].Token = 3 }), api.ErrArg},
		{"count after -1", changed(func(b *token.Book) { b.Counts[0].After = -1 }), api.ErrArg},
		{"count after 0", changed(func(b *token.Book) { b.Counts[0].After = 0 }), api.OK},
		{"count after all", changed(func(b *token.Book) { b.Counts[0].After = 4 }), api.OK},
		{"count after more", changed(func(b *token.Book) { b.Counts[0].After = 5 }), api.ErrArg},
		{"count of -1", changed(func(b *token.Book) { b.Counts[0].Money = to(-1, 30) }), api.ErrArg},
		{"count of 0 to 2000", changed(func(b *token.Book) { b.Counts[0].Money = to(0, 2000) }), api.OK},
		{"count of 2001", changed(func(b *token.Book) { b.Counts[0].Money = to(30, 2001) }), api.ErrArg},
		{"count of 2001 alone", changed(func(b *token.Book) { b.Counts[0].Money = to(2001, 2001) }), api.ErrArg},
		{"count turned", changed(func(b *token.Book) { b.Counts[0].Money = to(31, 30) }), api.ErrArg},
		{"the last one of the counts", changed(func(b *token.Book) { b.Counts = append(b.Counts, counted(5, 0, 0)) }), api.ErrArg},
		{"a book without a truth", changed(func(b *token.Book) { b.Lines[0] = back(0, 0) }), api.OK},
		{"a count that is wrong", changed(func(b *token.Book) { b.Counts[0].Money = to(0, 0) }), api.OK},
	}
}

// ordered are books with several errors, of which the first one counts.
func ordered() []flawed {
	nine := slices.Repeat(lines(line(9, 9, 9)), 9)
	return []flawed{
		{"too many lines, and all else", token.Book{Chairs: 9, Coin: -1, Box: -1, Lines: nine}, api.ErrLimit},
		{"too many counts, and all else", token.Book{Chairs: 9, Coin: -1, Box: -1, Counts: slices.Repeat([]token.Count{counted(9, 2, 1)}, 5)}, api.ErrLimit},
		{"too many readings, and no coin", token.Book{Chairs: 4, Lines: slices.Repeat(lines(free), 8)}, api.ErrArg},
		{"too many readings, and a box of -1", token.Book{Chairs: 4, Coin: 1, Box: -1, Lines: slices.Repeat(lines(free), 8)}, api.ErrArg},
		{"too many readings, and too many chairs", book(5, slices.Repeat(lines(free), 8)), api.ErrArg},
		{"too many readings, and a line that is not valid", book(4, lines(free, free, free, line(3, 0, 0))), api.ErrArg},
		{"too many readings, and a count that is not valid", book(4, lines(free, free, free), counted(4, 0, 99)), api.ErrArg},
		{"too many readings, and too many counts", book(4, lines(free, free, free), make([]token.Count, 5)...), api.ErrLimit},
		{"too many readings of a book without a truth", book(4, lines(back(0, 0), free, free, free)), api.ErrLimit},
	}
}

// call is a call with what it has together with an error.
type call struct {
	name string
	do   func(b token.Book, truth []token.Line, n int) (zero bool, e api.Errno)
}

var (
	playing = call{"Play", func(b token.Book, truth []token.Line, n int) (bool, api.Errno) {
		money, mixed, e := token.Play(b, truth)
		return money == nil && mixed == 0, e
	}}
	outing = call{"Out", func(b token.Book, truth []token.Line, n int) (bool, api.Errno) {
		chairs, tokens, e := token.Out(b, n)
		return chairs == nil && tokens == nil, e
	}}
	counting = call{"Money", func(b token.Book, truth []token.Line, n int) (bool, api.Errno) {
		r, e := token.Money(b, n)
		return r == token.Range{}, e
	}}
	mixing = call{"Mixed", func(b token.Book, truth []token.Line, n int) (bool, api.Errno) {
		r, e := token.Mixed(b)
		return r == token.Range{}, e
	}}
	reading = call{"Was", func(b token.Book, truth []token.Line, n int) (bool, api.Errno) {
		l, e := token.Was(b, n)
		return l == nil, e
	}}
	finding = call{"First", func(b token.Book, truth []token.Line, n int) (bool, api.Errno) {
		i, e := token.First(b)
		return i == 0, e
	}}
	leaving = call{"Leave", func(b token.Book, truth []token.Line, n int) (bool, api.Errno) {
		l, e := token.Leave(b)
		return l == nil, e
	}}
)

func calls() []call {
	return []call{playing, outing, counting, mixing, reading, finding, leaving}
}

// expect does the call, and wants the error, and with it nothing else.
func expect(t *testing.T, c call, b token.Book, truth []token.Line, n int, want api.Errno) {
	t.Helper()
	zero, e := c.do(b, truth, n)
	if e != want {
		t.Errorf("%s of %v, %v, %d: %v, not %v", c.name, b, truth, n, e, want)
	}
	if e != api.OK && !zero {
		t.Errorf("%s of %v, %v, %d: a result with %v", c.name, b, truth, n, e)
	}
}

// P3.1, and the rows "all" of the errors: each call has the error of the book,
// before any other one; the proof is false.
func TestErrorsOfTheBook(t *testing.T) {
	for _, x := range slices.Concat(limited(), invalid(), ordered()) {
		t.Run(x.name, func(t *testing.T) {
			if e := token.CheckBook(x.book); e != x.want {
				t.Errorf("CheckBook of %v: %v, not %v", x.book, e, x.want)
			}
			if x.want == api.OK {
				return
			}
			for _, c := range calls() {
				expect(t, c, x.book, x.book.Lines, 0, x.want)
				expect(t, c, x.book, nil, -1, x.want)
			}
			if token.ProveTruth(x.book, x.book.Lines) || token.ProveTruth(x.book, nil) {
				t.Errorf("proved: %v", x.book)
			}
		})
	}
}

// A proof is false for a book that is not valid, also if all else would be as
// it says.
func TestNoProofOfAnInvalidBook(t *testing.T) {
	pair := lines(hire(0, 0), back(0, 0))
	for _, b := range []token.Book{
		{Chairs: 1, Coin: 0, Box: 20, Lines: pair},
		{Chairs: 1, Coin: 100, Box: 20, Lines: pair},
		{Chairs: 1, Coin: 5, Box: 1000, Lines: pair},
		{Chairs: 1, Coin: 5, Box: -1, Lines: pair},
		book(0, nil), book(5, pair),
		book(1, pair, counted(0, 0, 2001)),
		book(1, pair, counted(3, 0, 2000)),
		book(1, pair, make([]token.Count, 5)...),
		book(1, slices.Concat(pair, pair, pair, pair, lines(hire(0, 0)))),
	} {
		if token.ProveTruth(b, b.Lines) {
			t.Errorf("proved: %v", b)
		}
	}
	b := book(4, lines(free, free, free))
	if token.ProveTruth(b, lines(hire(0, 0), hire(1, 1), hire(2, 2))) {
		t.Errorf("proved: %v", b)
	}
}

// Lists that are no truths, or no possible ones: their length, their signs, and
// what is at the stand.
func TestNoTruth(t *testing.T) {
	b := example(3)
	for _, l := range [][]token.Line{
		nil, {}, lines(hire(0, 1), hire(1, 2)), lines(hire(0, 1), hire(1, 2), back(0, 1), hire(0, 0)),
		make([]token.Line, 3), make([]token.Line, 8), make([]token.Line, 9),
		lines(hire(0, 0), hire(1, 2), back(0, 1)), lines(hire(1, 1), hire(1, 2), back(1, 1)), lines(back(0, 1), hire(1, 2), back(0, 1)),
		lines(hire(0, 1), hire(1, 1), back(0, 1)), lines(hire(0, 1), hire(0, 2), back(0, 1)), lines(hire(0, 1), hire(1, 2), back(2, 1)),
		lines(hire(0, 1), hire(1, -1), back(0, 1)), lines(hire(0, 1), hire(1, 3), back(0, 1)), lines(hire(0, 1), hire(1, 2), back(-1, 1)),
		lines(hire(0, 1), hire(1, 2), back(0, 2)), lines(hire(0, 1), hire(1, 2), hire(0, 1)), lines(hire(0, 1), hire(1, 2), line(0, 0, 1)),
		lines(hire(0, 1), hire(1, math.MaxInt), back(0, 1)), lines(hire(0, 1), hire(1, 2), back(math.MinInt, 1)), lines(line(math.MaxInt, 0, 1), hire(1, 2), back(0, 1)),
	} {
		expect(t, playing, b, l, 0, api.ErrRange)
		if token.ProveTruth(b, l) {
			t.Errorf("proved: %v", l)
		}
	}
	for _, l := range [][]token.Line{
		lines(hire(0, 1), hire(1, 2), back(0, 1)), lines(hire(0, 1), hire(1, 0), back(0, 1)), lines(hire(0, 1), hire(1, 0), back(1, 1)),
	} {
		expect(t, playing, b, l, 0, api.OK)
		if !token.ProveTruth(b, l) {
			t.Errorf("not proved: %v", l)
		}
	}
}

// An unreadable sign of the book cannot be read in a truth as one of no chair,
// nor as unreadable.
func TestNoReading(t *testing.T) {
	b := book(2, lines(free))
	for _, l := range []token.Line{free, line(0, 0, 0), line(3, 0, 0), line(1, 2, 0), line(1, 0, 2), line(1, -1, 0), line(1, 0, -1), line(1, 3, 3), line(1, 4, 0), line(-1, 0, 0)} {
		expect(t, playing, b, lines(l), 0, api.ErrRange)
		if token.ProveTruth(b, lines(l)) {
			t.Errorf("proved: %v", l)
		}
	}
	expect(t, playing, b, lines(back(1, 1)), 0, api.ErrRange)
	expect(t, playing, b, lines(hire(1, 1)), 0, api.OK)
}

// Play does not ask about counts; ProveTruth does, about each of them.
func TestPlayWithoutATruth(t *testing.T) {
	l := lines(hire(0, 1), hire(1, 2), back(0, 1))
	for _, c := range []token.Count{counted(0, 0, 19), counted(0, 21, 99), counted(1, 26, 26), counted(2, 0, 29), counted(3, 0, 24), counted(3, 26, 99)} {
		for _, b := range []token.Book{example(3, c), example(3, counted(3, 25, 25), c), example(3, c, counted(0, 20, 20))} {
			expect(t, playing, b, l, 0, api.OK)
			if token.ProveTruth(b, l) {
				t.Errorf("proved: %v, %v", b, l)
			}
		}
	}
	b := example(3, counted(0, 0, 20), counted(1, 25, 25), counted(2, 30, 99), counted(3, 25, 26))
	if !token.ProveTruth(b, l) {
		t.Errorf("not proved: %v, %v", b, l)
	}
}

// What is asked about is checked after the book, and before it is asked whether
// the book has a truth.
func TestNoSuchLine(t *testing.T) {
	for _, b := range []token.Book{example(4), changed(func(b *token.Book) { b.Lines[0] = back(0, 0) })} {
		for _, n := range []int{-1, 5, 6, 9, math.MinInt, math.MaxInt} {
			for _, c := range []call{outing, counting, reading} {
				expect(t, c, b, nil, n, api.ErrRange)
			}
		}
		expect(t, reading, b, nil, 4, api.ErrRange)
	}
	for _, c := range []call{outing, counting, reading} {
		expect(t, c, example(4), nil, 0, api.OK)
		expect(t, c, example(4), nil, 3, api.OK)
	}
	for _, c := range []call{outing, counting} {
		expect(t, c, example(4), nil, 4, api.OK)
		expect(t, c, example(0), nil, 0, api.OK)
		expect(t, c, example(0), nil, 1, api.ErrRange)
	}
	expect(t, reading, example(0), nil, 0, api.ErrRange)
	expect(t, mixing, example(0), nil, -1, api.OK)
}

// A book without a truth, because of a line, of several ones, and of counts.
func TestBookWithoutATruth(t *testing.T) {
	for _, b := range []token.Book{
		example(5),
		book(2, lines(back(-1, -1))),
		book(1, lines(hire(0, 0), hire(-1, -1))),
		example(3, counted(1, 26, 99)),
		example(3, counted(0, 0, 20), counted(3, 0, 24)),
		example(0, counted(0, 0, 19)),
		book(2, lines(free, free), counted(2, 21, 29)),
		book(2, lines(free, free), counted(2, 20, 24), counted(2, 25, 30)),
	} {
		if e := token.CheckBook(b); e != api.OK {
			t.Errorf("CheckBook of %v: %v", b, e)
		}
		for _, c := range []call{outing, counting, mixing} {
			expect(t, c, b, nil, 0, api.ErrFalse)
		}
		if len(b.Lines) > 0 {
			expect(t, reading, b, nil, 0, api.ErrFalse)
		}
	}
}

// First has ErrNone without a wrong line, whatever the counts are.
func TestNoWrongLine(t *testing.T) {
	for _, b := range []token.Book{
		example(0), example(4), example(4, counted(4, 0, 0)), example(0, counted(0, 0, 0)), book(2, lines(free, free), counted(1, 0, 0)),
	} {
		expect(t, finding, b, nil, 0, api.ErrNone)
	}
	expect(t, finding, example(5), nil, 0, api.OK)
	expect(t, finding, book(1, lines(back(0, 0))), nil, 0, api.OK)
	expect(t, finding, book(2, lines(free, hire(0, 0), hire(0, 1)), counted(1, 0, 0)), nil, 0, api.OK)
}

// Leave has ErrShort if counts are wrong whatever is left out.
func TestNothingCanBeLeftOut(t *testing.T) {
	for _, b := range []token.Book{
		example(0, counted(0, 0, 19)),
		example(4, counted(0, 21, 99)),
		example(4, counted(4, 0, 19)),
		example(4, counted(4, 36, 99)),
		example(4, counted(4, 21, 24)),
		example(4, counted(4, 25, 25), counted(0, 0, 19)),
		example(4, counted(2, 25, 25), counted(2, 30, 30)),
		book(2, lines(hire(0, 0)), counted(1, 30, 30)),
		book(2, lines(back(0, 0)), counted(1, 25, 25)),
	} {
		expect(t, leaving, b, nil, 0, api.ErrShort)
	}
	expect(t, leaving, example(4, counted(4, 20, 20)), nil, 0, api.OK)
	expect(t, leaving, example(4, counted(0, 20, 20), counted(4, 35, 35)), nil, 0, api.ErrShort)
	expect(t, leaving, example(0, counted(0, 20, 20)), nil, 0, api.OK)
}

// P1: no call panics, whatever the arguments are.
func TestNothingPanics(t *testing.T) {
	odd := []int{math.MinInt, -1 << 32, -2, -1, 0, 1, 2, 4, 5, 8, 9, 99, 1 << 32, math.MaxInt}
	for _, m := range odd {
		for _, n := range odd {
			for _, b := range []token.Book{
				{Chairs: m, Coin: n, Box: m},
				{Chairs: m, Coin: 1, Box: n, Lines: lines(free, hire(0, -1))},
				{Chairs: m, Coin: 1, Lines: slices.Repeat(lines(free), 8)},
				{Chairs: 2, Coin: n, Box: m, Lines: lines(hire(0, 0))},
				book(2, lines(line(m, n, 0), line(0, m, n))),
				book(2, lines(line(1, m, n), line(2, n, m))),
				book(2, lines(hire(0, 0)), counted(m, 0, n)),
				book(2, lines(hire(0, 0)), counted(1, m, n)),
				book(2, lines(free, hire(0, 0)), counted(1, 25, 25)),
				book(2, make([]token.Line, 9)),
			} {
				token.CheckBook(b)
				for _, l := range [][]token.Line{nil, b.Lines, lines(line(m, n, n)), lines(line(1, m, n), line(n, m, 0)), make([]token.Line, 12)} {
					for _, c := range calls() {
						c.do(b, l, m)
						c.do(b, l, n)
					}
					token.ProveTruth(b, l)
				}
			}
		}
	}
}
