package season_test

import (
	"math"
	"slices"
	"testing"

	"foreshore/api"
	"foreshore/season"
	"foreshore/token"
)

// changed returns the case of the examples, with one liar at most, after a change.
func changed(f func(c *season.Case)) season.Case {
	c := example(1)
	f(&c)
	return c
}

// falseBook makes the book one that has no truth: nobody brings a chair back that is
// at the stand.
func falseBook(c *season.Case) { c.Book.Lines[2].Chair = 2 }

// many returns so many words that are not valid.
func many(n int) []season.Word { return slices.Repeat(words(out(-1, 9)), n) }

type flawed struct {
	name   string
	change func(c *season.Case)
	want   api.Errno
}

// limited are cases at the limits and above them.
func limited() []flawed {
	return []flawed{
		{"valid", func(c *season.Case) {}, api.OK},
		{"no witnesses", func(c *season.Case) { c.Witnesses = nil }, api.OK},
		{"no claims", func(c *season.Case) { c.Claims = nil }, api.OK},
		{"most witnesses", func(c *season.Case) { c.Witnesses = make([][]season.Word, 4) }, api.OK},
		{"too many witnesses", func(c *season.Case) { c.Witnesses = make([][]season.Word, 5) }, api.ErrLimit},
		{"most claims", func(c *season.Case) { c.Claims = make([]season.Word, 4) }, api.OK},
		{"too many claims", func(c *season.Case) { c.Claims = make([]season.Word, 5) }, api.ErrLimit},
		{"most words", func(c *season.Case) { c.Witnesses[0] = make([]season.Word, 4) }, api.OK},
		{"most words of most witnesses", func(c *season.Case) {
			c.Witnesses = slices.Repeat([][]season.Word{make([]season.Word, 4)}, 4)
		}, api.OK},
		{"too many words of the first witness", func(c *season.Case) { c.Witnesses[0] = make([]season.Word, 5) }, api.ErrLimit},
		{"too many words of the last witness", func(c *season.Case) { c.Witnesses[2] = make([]season.Word, 5) }, api.ErrLimit},
		{"too many witnesses, and all else", func(c *season.Case) {
			c.Book, c.Witnesses, c.Liars, c.Claims = token.Book{}, make([][]season.Word, 5), 9, many(4)
		}, api.ErrLimit},
		{"too many claims, and all else", func(c *season.Case) { c.Book, c.Liars, c.Claims = token.Book{}, -1, many(5) }, api.ErrLimit},
		{"too many words, and all else", func(c *season.Case) { c.Book, c.Liars, c.Witnesses[1] = token.Book{}, 9, many(5) }, api.ErrLimit},
		{"too many claims, and a book without a truth", func(c *season.Case) { falseBook(c); c.Claims = many(5) }, api.ErrLimit},
		{"too many words, and a book without a truth", func(c *season.Case) { falseBook(c); c.Witnesses[2] = many(5) }, api.ErrLimit},
	}
}

// ofTheBook are cases whose book has an error, which counts before others of the
// case.
func ofTheBook() []flawed {
	free := slices.Repeat(lines(line(0, -1, -1)), 8)
	return []flawed{
		{"no case", func(c *season.Case) { *c = season.Case{} }, api.ErrArg},
		{"too many lines", func(c *season.Case) { c.Book.Lines = make([]token.Line, 9) }, api.ErrLimit},
		{"too many counts", func(c *season.Case) { c.Book.Counts = make([]token.Count, 5) }, api.ErrLimit},
		{"no chairs", func(c *season.Case) { c.Book.Chairs = 0 }, api.ErrArg},
		{"too many chairs", func(c *season.Case) { c.Book.Chairs = 5 }, api.ErrArg},
		{"no coin", func(c *season.Case) { c.Book.Coin = 0 }, api.ErrArg},
		{"a box of -1", func(c *season.Case) { c.Book.Box = -1 }, api.ErrArg},
		{"a line of no kind", func(c *season.Case) { c.Book.Lines[0].Kind = 3 }, api.ErrArg},
		{"a count after more lines", func(c *season.Case) { c.Book.Counts = []token.Count{counted(4, 20, 30)} }, api.ErrArg},
		{"too many readings", func(c *season.Case) { c.Book.Lines = free }, api.ErrLimit},
		{"too many readings, and nothing else valid", func(c *season.Case) { c.Book.Lines, c.Liars, c.Claims = free, 5, many(4) }, api.ErrLimit},
		{"no coin, and too many liars", func(c *season.Case) { c.Book.Coin, c.Liars = 0, 5 }, api.ErrArg},
		{"a line that is not possible", falseBook, api.ErrFalse},
		{"a count that is wrong", func(c *season.Case) { c.Book.Counts = []token.Count{counted(3, 26, 99)} }, api.ErrFalse},
		{"a count that is right", func(c *season.Case) { c.Book.Counts = []token.Count{counted(3, 25, 25)} }, api.OK},
		{"no truth, and too many liars", func(c *season.Case) { falseBook(c); c.Liars = 5 }, api.ErrFalse},
		{"no truth, and liars of -1", func(c *season.Case) { falseBook(c); c.Liars = -1 }, api.ErrFalse},
		{"no truth, and a claim that is not valid", func(c *season.Case) { falseBook(c); c.Claims[3] = out(4, 0) }, api.ErrFalse},
		{"no truth, and a word that is not valid", func(c *season.Case) { falseBook(c); c.Witnesses[2][0] = out(0, 3) }, api.ErrFalse},
	}
}

// invalid are cases that are not valid otherwise, and ones that are just so.
func invalid() []flawed {
	list := []flawed{
		{"Liars of -1", func(c *season.Case) { c.Liars = -1 }, api.ErrArg},
		{"Liars of 0, with no truth", func(c *season.Case) { c.Liars = 0 }, api.OK},
		{"Liars of 3, as many as witnesses", func(c *season.Case) { c.Liars = 3 }, api.OK},
		{"Liars of 4, more than witnesses", func(c *season.Case) { c.Liars = 4 }, api.OK},
		{"Liars of 4, and no witnesses", func(c *season.Case) { c.Liars, c.Witnesses = 4, nil }, api.OK},
		{"Liars of 5", func(c *season.Case) { c.Liars = 5 }, api.ErrArg},
		{"Liars of 5, and claims and words that are not valid", func(c *season.Case) { c.Liars, c.Claims, c.Witnesses[0] = 5, many(4), many(4) }, api.ErrArg},
		{"a chair above those of a book without lines", func(c *season.Case) {
			c.Book.Lines, c.Witnesses, c.Claims = nil, nil, words(out(0, 3))
		}, api.ErrArg},
		{"words after no lines of a book without lines", func(c *season.Case) {
			c.Book.Lines, c.Witnesses, c.Claims = nil, nil, words(out(0, 2), signIn(0, 2))
		}, api.OK},
		{"a word after one line of a book without lines", func(c *season.Case) {
			c.Book.Lines, c.Witnesses, c.Claims = nil, nil, words(in(1, 0))
		}, api.ErrArg},
	}
	for _, x := range []struct {
		name string
		word season.Word
		want api.Errno
	}{
		{"after -1", out(-1, 0), api.ErrArg}, {"after 0", out(0, 0), api.OK}, {"after all lines", signIn(3, 0), api.OK}, {"after more lines", in(4, 0), api.ErrArg},
		{"of the chair -1", in(0, -1), api.ErrArg}, {"of the chair 2", in(3, 2), api.OK}, {"of the chair 3", out(3, 3), api.ErrArg},
		{"of the token -1", signIn(0, -1), api.ErrArg}, {"of the token 2", signOut(3, 2), api.OK}, {"of the token 3", signOut(3, 3), api.ErrArg},
	} {
		list = append(list,
			flawed{"the first claim " + x.name, func(c *season.Case) { c.Claims[0] = x.word }, x.want},
			flawed{"the last claim " + x.name, func(c *season.Case) { c.Claims[3] = x.word }, x.want},
			flawed{"the first word " + x.name, func(c *season.Case) { c.Witnesses[0][0] = x.word }, x.want},
			flawed{"the last word " + x.name, func(c *season.Case) { c.Witnesses[2] = words(out(0, 0), x.word) }, x.want},
		)
	}
	return list
}

// asked is what is asked about a case.
type asked struct {
	claim int
	truth []token.Line
}

// call is a call with what it has together with an error.
type call struct {
	name string
	do   func(c season.Case, a asked) (zero bool, e api.Errno)
}

var (
	playing = call{"Play", func(c season.Case, a asked) (bool, api.Errno) {
		l, m, e := season.Play(c, a.truth)
		return l == nil && m == nil, e
	}}
	judging = call{"Judge", func(c season.Case, a asked) (bool, api.Errno) {
		l, e := season.Judge(c)
		return l == nil, e
	}}
	doubting = call{"Liars", func(c season.Case, a asked) (bool, api.Errno) {
		l, e := season.Liars(c)
		return l == nil, e
	}}
	denying = call{"Deny", func(c season.Case, a asked) (bool, api.Errno) {
		l, e := season.Deny(c, a.claim)
		return l == nil, e
	}}
	counting = call{"Least", func(c season.Case, a asked) (bool, api.Errno) {
		n, e := season.Least(c)
		return n == 0, e
	}}
	deciding = call{"Decide", func(c season.Case, a asked) (bool, api.Errno) {
		l, e := season.Decide(c, a.claim)
		return l == nil, e
	}}
	joining = call{"Together", func(c season.Case, a asked) (bool, api.Errno) {
		l, e := season.Together(c)
		return l == nil, e
	}}
	leaving = call{"Leave", func(c season.Case, a asked) (bool, api.Errno) {
		l, e := season.Leave(c)
		return l == nil, e
	}}
)

// judges returns the calls that need a truth of the case, except for those that ask
// about a claim.
func judges() []call { return []call{judging, doubting, joining, leaving} }

// claimants returns the calls that ask about a claim.
func claimants() []call { return []call{denying, deciding} }

func calls() []call { return slices.Concat([]call{playing, counting}, judges(), claimants()) }

// expect does the call, and wants the error, and with it nothing else.
func expect(t *testing.T, x call, c season.Case, a asked, want api.Errno) {
	t.Helper()
	zero, e := x.do(c, a)
	if e != want {
		t.Errorf("%s of %v, %v: %v, not %v", x.name, c, a, e, want)
	}
	if e != api.OK && !zero {
		t.Errorf("%s of %v, %v: a result with %v", x.name, c, a, e)
	}
}

// P9.1, and the row "all" of the errors: each call has the error of the case, before
// any other one; the proofs are false.
func TestErrorsOfTheCase(t *testing.T) {
	for _, x := range slices.Concat(limited(), ofTheBook(), invalid()) {
		t.Run(x.name, func(t *testing.T) {
			c := changed(x.change)
			if e := season.CheckCase(c); e != x.want {
				t.Errorf("CheckCase of %v: %v, not %v", c, e, x.want)
			}
			expect(t, counting, c, asked{}, x.want)
			if x.want == api.OK {
				return
			}
			for _, a := range []asked{{}, {0, read(2, 0)}, {2, read(2, 1)}, {3, c.Book.Lines}, {-1, nil}, {4, read(1, 1)}} {
				for _, y := range calls() {
					expect(t, y, c, a, x.want)
				}
				if season.ProveTruth(c, a.truth) || season.ProveDenial(c, a.claim, a.truth) {
					t.Errorf("proved: %v, %v", c, a)
				}
			}
		})
	}
}

// A proof is false for a case that is not valid, also if all else would be as it
// says.
func TestNoProofOfAnInvalidCase(t *testing.T) {
	valid := ofBook(0, words(out(3, 2), in(3, 2)), words(in(0, 0)))
	if l := read(0, 0); !season.ProveTruth(valid, l) || !season.ProveDenial(valid, 0, l) || season.ProveDenial(valid, 1, l) {
		t.Fatalf("not proved: %v, %v", valid, l)
	}
	for _, change := range []func(c *season.Case){
		func(c *season.Case) { c.Liars = 5 },
		func(c *season.Case) { c.Liars = -1 },
		func(c *season.Case) { c.Claims = append(c.Claims, out(3, 3)) },
		func(c *season.Case) { c.Claims = slices.Repeat(words(out(0, 0)), 5) },
		func(c *season.Case) { c.Witnesses = make([][]season.Word, 5) },
		func(c *season.Case) { c.Witnesses[0] = slices.Repeat(words(in(0, 0)), 5) },
		func(c *season.Case) { c.Witnesses[0] = words(in(0, 3)) },
		func(c *season.Case) { c.Witnesses[0] = words(in(4, 0)) },
		func(c *season.Case) { c.Book.Coin = 0 },
		func(c *season.Case) { c.Book.Counts = []token.Count{counted(0, 0, 19)} },
	} {
		c := copied(valid)
		change(&c)
		if l := read(0, 0); season.ProveTruth(c, l) || season.ProveDenial(c, 0, l) {
			t.Errorf("proved: %v, %v", c, l)
		}
	}
}

// Play has ErrRange for lists that are no truths of the book, and for no others,
// whoever lies in them.
func TestErrorsOfPlay(t *testing.T) {
	for _, n := range []int{0, 1, 2, 4} {
		c := example(n)
		for _, l := range [][]token.Line{
			nil, {}, read(2, 0)[:2], append(read(2, 0), hire(0, 0)), make([]token.Line, 3), make([]token.Line, 99),
			read(1, 0), read(2, 2), read(-1, 0), read(2, -1), read(3, 0), read(0, math.MaxInt), read(math.MinInt, 1), c.Book.Lines,
			lines(hire(0, 1), back(1, 2), back(0, 1)), lines(hire(0, 1), hire(1, 2), hire(0, 1)), lines(hire(0, 0), hire(1, 2), back(0, 1)), lines(hire(0, 1), hire(1, 2), back(0, 2)),
		} {
			expect(t, playing, c, asked{truth: l}, api.ErrRange)
			if season.ProveTruth(c, l) || season.ProveDenial(c, 0, l) {
				t.Errorf("proved: %v, %v", c, l)
			}
		}
		for _, l := range [][]token.Line{read(0, 0), read(0, 1), read(2, 0), read(2, 1)} {
			expect(t, playing, c, asked{truth: l}, api.OK)
		}
	}
	// The money is counted, too.
	c := changed(func(c *season.Case) {
		c.Book.Lines[2], c.Book.Counts = line(0, -1, 0), []token.Count{counted(3, 30, 99)}
	})
	expect(t, playing, c, asked{truth: lines(hire(0, 1), hire(1, 0), back(0, 0))}, api.ErrRange)
	expect(t, playing, c, asked{truth: lines(hire(0, 1), hire(1, 2), hire(2, 0))}, api.OK)
}

// Deny and Decide have ErrRange for claims that are not there, and only then
// ErrFalse; Deny has ErrNone after that.
func TestErrorsOfClaims(t *testing.T) {
	for _, n := range []int{math.MinInt, -1, 4, 5, 1 << 32, math.MaxInt} {
		for _, c := range []season.Case{example(0), example(1), example(4)} {
			for _, x := range claimants() {
				expect(t, x, c, asked{claim: n}, api.ErrRange)
			}
			if season.ProveDenial(c, n, read(2, 0)) {
				t.Errorf("proved: %v, %d", c, n)
			}
		}
	}
	none := changed(func(c *season.Case) { c.Claims = nil })
	for _, x := range claimants() {
		expect(t, x, none, asked{}, api.ErrRange)
		none.Liars = 0
		expect(t, x, none, asked{}, api.ErrRange)
		for claim := range 4 {
			expect(t, x, example(0), asked{claim: claim}, api.ErrFalse)
		}
	}
	for claim, want := range []api.Errno{api.OK, api.OK, api.ErrNone, api.OK} {
		expect(t, denying, example(1), asked{claim: claim}, want)
		expect(t, deciding, example(1), asked{claim: claim}, api.OK)
	}
	// A claim that is dismissed is denied.
	dismissed := ofBook(0, words(out(0, 0)))
	expect(t, denying, dismissed, asked{}, api.OK)
	expect(t, deciding, dismissed, asked{}, api.OK)
}

// Cases without a truth: Play and Least have results, all others do not.
func TestNoTruthOfTheCase(t *testing.T) {
	for _, x := range []struct {
		c    season.Case
		want api.Errno
	}{
		{example(0), api.ErrFalse}, {example(1), api.OK},
		{ofBook(0, words(in(0, 0)), words(out(0, 0))), api.ErrFalse},
		{ofBook(1, words(in(0, 0)), words(out(0, 0))), api.OK},
		{ofBook(0, words(in(0, 0)), words(in(3, 0)), words(in(3, 1))), api.ErrFalse},
		{ofBook(3, words(in(0, 0)), words(out(0, 0)), words(out(0, 1)), words(out(0, 2)), words(signOut(0, 0))), api.ErrFalse},
		{ofBook(4, words(in(0, 0)), words(out(0, 0)), words(out(0, 1)), words(out(0, 2)), words(signOut(0, 0))), api.OK},
	} {
		for _, y := range append(judges(), deciding) {
			expect(t, y, x.c, asked{}, x.want)
		}
		if e := season.CheckCase(x.c); e != api.OK {
			t.Errorf("CheckCase of %v: %v", x.c, e)
		}
		expect(t, counting, x.c, asked{}, api.OK)
		expect(t, playing, x.c, asked{truth: read(2, 0)}, api.OK)
		if x.want == api.ErrFalse {
			expect(t, denying, x.c, asked{}, api.ErrFalse)
			if l := proved(x.c); len(l) > 0 {
				t.Errorf("proved: %v, %v", x.c, l)
			}
		}
	}
}

// callAll does all calls of a case.
func callAll(c season.Case, a asked) {
	season.CheckCase(c)
	for _, x := range calls() {
		x.do(c, a)
	}
	season.ProveTruth(c, a.truth)
	season.ProveDenial(c, a.claim, a.truth)
}

// P1: no call panics, whatever the arguments are.
func TestNothingPanics(t *testing.T) {
	odd := []int{math.MinInt, -1 << 32, -1, 0, 1, 2, 3, 4, 5, 9, 64, 1 << 32, math.MaxInt}
	for _, m := range odd {
		for _, n := range odd {
			for _, change := range []func(c *season.Case){
				func(c *season.Case) {},
				func(c *season.Case) { *c = season.Case{} },
				func(c *season.Case) { c.Claims = make([]season.Word, 99) },
				func(c *season.Case) { c.Witnesses = make([][]season.Word, 99) },
				func(c *season.Case) { c.Witnesses[1] = make([]season.Word, 99) },
				func(c *season.Case) { c.Claims = words(out(m, n), signIn(n, m)) },
				func(c *season.Case) { c.Witnesses[1] = words(in(m, n), signOut(n, m)) },
				func(c *season.Case) { c.Liars, c.Book.Chairs = m, n },
				func(c *season.Case) { c.Book.Lines[1] = line(0, m, n) },
				func(c *season.Case) { c.Book.Lines[2] = line(m, n, -1) },
				func(c *season.Case) { c.Book.Coin, c.Book.Box = m, n },
				func(c *season.Case) { c.Book.Counts = []token.Count{counted(m, 0, n)} },
			} {
				c := changed(change)
				callAll(c, asked{m, lines(hire(0, 1), hire(1, m), back(n, 1))})
				callAll(c, asked{n, lines(line(m, n, 1), line(n, 1, m))})
				callAll(c, asked{2, read(2, 1)})
			}
		}
	}
}
