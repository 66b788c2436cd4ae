package token_test

import (
	"math/rand"
	"slices"
	"testing"

	"foreshore/api"
	"foreshore/token"
)

// The oracle: what the chapter defines, computed from all readings of all lines
// by the words of the definitions alone, without anything of package token but
// its types.

// signs returns what one sign can be: each number from low to high, if it
// cannot be read.
func signs(sign, unread, low, high int) []int {
	if sign != unread {
		return []int{sign}
	}
	var out []int
	for n := low; n <= high; n++ {
		out = append(out, n)
	}
	return out
}

func readingsOf(chairs int, l token.Line) []token.Line {
	var out []token.Line
	for _, kind := range signs(l.Kind, 0, 1, 2) {
		for _, chair := range signs(l.Chair, -1, 0, chairs-1) {
			for _, sign := range signs(l.Token, -1, 0, chairs-1) {
				out = append(out, line(kind, chair, sign))
			}
		}
	}
	return out
}

// allReadings returns all lists with one reading of each line.
func allReadings(b token.Book) [][]token.Line {
	out := [][]token.Line{nil}
	for _, l := range b.Lines {
		var longer [][]token.Line
		for _, before := range out {
			for _, r := range readingsOf(b.Chairs, l) {
				longer = append(longer, append(slices.Clone(before), r))
			}
		}
		out = longer
	}
	return out
}

// state is what is so after some lines. Who is out has the line of its hire.
type state struct {
	chairs, tokens map[int]int
	money, mixed   int
}

// statesOf returns the states after 0, 1, .. and all lines, if the lines are
// possible.
func statesOf(b token.Book, lines []token.Line) ([]state, bool) {
	s := state{map[int]int{}, map[int]int{}, b.Box, 0}
	out := []state{s}
	for i, l := range lines {
		chair, chairOut := s.chairs[l.Chair]
		sign, signOut := s.tokens[l.Token]
		s.chairs, s.tokens = cloned(s.chairs), cloned(s.tokens)
		switch l.Kind {
		case token.Hire:
			if chairOut || signOut {
				return nil, false
			}
			s.chairs[l.Chair], s.tokens[l.Token] = i, i
			s.money += b.Coin
		case token.Return:
			if !chairOut || !signOut {
				return nil, false
			}
			if chair != sign {
				s.mixed++
			}
			delete(s.chairs, l.Chair)
			delete(s.tokens, l.Token)
			s.money -= b.Coin
		}
		out = append(out, s)
	}
	return out, true
}

func cloned(m map[int]int) map[int]int {
	out := map[int]int{}
	for k, v := range m {
		out[k] = v
	}
	return out
}

// told is a possible list of lines, with what it tells.
type told struct {
	lines  []token.Line
	states []state
}

func possibleOf(b token.Book) []told {
	var out []told
	for _, lines := range allReadings(b) {
		if states, ok := statesOf(b, lines); ok {
			out = append(out, told{lines, states})
		}
	}
	return out
}

func allRight(b token.Book, states []state) bool {
	for _, k := range b.Counts {
		if money := states[k.After].money; money < k.Money.Lo || money > k.Money.Hi {
			return false
		}
	}
	return true
}

func truthsOf(b token.Book) []told {
	var out []told
	for _, x := range possibleOf(b) {
		if allRight(b, x.states) {
			out = append(out, x)
		}
	}
	return out
}

// rangeOf returns the bounds of a number of all truths.
func rangeOf(truths []told, number func(x told) int) token.Range {
	var all []int
	for _, x := range truths {
		all = append(all, number(x))
	}
	return to(slices.Min(all), slices.Max(all))
}

func moneyOf(truths []told, after int) token.Range {
	return rangeOf(truths, func(x told) int { return x.states[after].money })
}

func mixedOf(truths []told) token.Range {
	return rangeOf(truths, func(x told) int { return x.states[len(x.lines)].mixed })
}

// outOf returns the verdicts of so many chairs, or tokens.
func outOf(truths []told, many, after int, kind func(s state) map[int]int) []int {
	var out []int
	for i := range many {
		met := 0
		for _, x := range truths {
			if _, is := kind(x.states[after])[i]; is {
				met++
			}
		}
		switch met {
		case len(truths):
			out = append(out, yes)
		case 0:
			out = append(out, no)
		default:
			out = append(out, may)
		}
	}
	return out
}

func chairsOf(s state) map[int]int { return s.chairs }

func tokensOf(s state) map[int]int { return s.tokens }

// wasOf returns all that the line is.
func wasOf(truths []told, line int) []token.Line {
	var out []token.Line
	for _, x := range truths {
		if !slices.Contains(out, x.lines[line]) {
			out = append(out, x.lines[line])
		}
	}
	slices.SortFunc(out, before)
	return out
}

func before(a, b token.Line) int {
	return slices.Compare([]int{a.Kind, a.Chair, a.Token}, []int{b.Kind, b.Chair, b.Token})
}

// firstOf returns the first wrong line, or -1.
func firstOf(b token.Book) int {
	for n := range b.Lines {
		if len(truthsOf(upTo(b, n+1))) == 0 {
			return n
		}
	}
	return -1
}

// upTo returns the book with its first lines alone, and without counts.
func upTo(b token.Book, many int) token.Book {
	b = copied(b)
	b.Lines, b.Counts = b.Lines[:many], nil
	return b
}

// subsets returns all increasing lists of numbers from 0 to n-1, the shorter
// ones first, those of one length in their lexicographic order.
func subsets(n int) [][]int {
	var out [][]int
	for code := range 1 << n {
		var l []int
		for i := range n {
			if code>>i&1 == 1 {
				l = append(l, i)
			}
		}
		out = append(out, l)
	}
	slices.SortFunc(out, func(a, b []int) int {
		if len(a) != len(b) {
			return len(a) - len(b)
		}
		return slices.Compare(a, b)
	})
	return out
}

// leaveOf returns the smallest set, if lines can be left out.
func leaveOf(b token.Book) ([]int, bool) {
	for _, l := range subsets(len(b.Lines)) {
		if len(truthsOf(without(b, l))) > 0 {
			return l, true
		}
	}
	return nil, false
}

// without returns the book without the lines of these numbers.
func without(b token.Book, left []int) token.Book {
	b = copied(b)
	var kept []token.Line
	// earlier has for each number of lines how many of them are left.
	earlier := []int{0}
	for i, l := range b.Lines {
		if !slices.Contains(left, i) {
			kept = append(kept, l)
		}
		earlier = append(earlier, len(kept))
	}
	b.Lines = kept
	for i, k := range b.Counts {
		b.Counts[i].After = earlier[k.After]
	}
	return b
}

// copied returns a book that shares no memory with the given one.
func copied(b token.Book) token.Book {
	b.Lines, b.Counts = slices.Clone(b.Lines), slices.Clone(b.Counts)
	return b
}

func to(low, high int) token.Range { return token.Range{Lo: low, Hi: high} }

func line(kind, chair, sign int) token.Line {
	return token.Line{Kind: kind, Chair: chair, Token: sign}
}

func hire(chair, sign int) token.Line { return line(token.Hire, chair, sign) }

func back(chair, sign int) token.Line { return line(token.Return, chair, sign) }

func lines(l ...token.Line) []token.Line { return l }

func counted(after, low, high int) token.Count {
	return token.Count{After: after, Money: to(low, high)}
}

// book returns a book with so many chairs, the coin 5 and the box 20.
func book(chairs int, l []token.Line, c ...token.Count) token.Book {
	return token.Book{Chairs: chairs, Coin: 5, Box: 20, Lines: l, Counts: c}
}

// example is the book of the chapter's examples with so many lines (the last
// one is that of the example of First), and with counts.
func example(many int, c ...token.Count) token.Book {
	l := lines(hire(0, 1), hire(1, -1), back(-1, 1), hire(0, 0), hire(2, 0))
	return book(3, l[:many:many], c...)
}

// someBook returns a book of lines that are possible, of which some are
// changed, some cannot be read, and some are followed by counts, so that many
// books have a truth, and many have none.
func someBook(rnd *rand.Rand) token.Book {
	b := token.Book{Chairs: 1 + rnd.Intn(api.MaxTokenChairs), Coin: 1 + rnd.Intn(9), Box: rnd.Intn(50)}
	money := []int{b.Box}
	out := 0
	for range rnd.Intn(api.MaxTokenLines + 1) {
		l := somePossible(rnd, b)
		b.Lines = append(b.Lines, l)
		if out++; l.Kind == token.Return {
			out -= 2
		}
		money = append(money, b.Box+b.Coin*out)
	}
	for range rnd.Intn(6) * rnd.Intn(2) {
		if len(b.Lines) > 0 {
			b.Lines[rnd.Intn(len(b.Lines))] = someLine(rnd, b.Chairs)
		}
	}
	for range rnd.Intn(10) {
		smudge(rnd, &b)
	}
	for range rnd.Intn(api.MaxTokenCounts+1) * rnd.Intn(2) {
		b.Counts = append(b.Counts, someCount(rnd, b, money))
	}
	return b
}

// somePossible returns a line that is possible after those of the book.
func somePossible(rnd *rand.Rand, b token.Book) token.Line {
	for {
		l := someLine(rnd, b.Chairs)
		if _, ok := statesOf(b, append(slices.Clone(b.Lines), l)); ok {
			return l
		}
	}
}

func someLine(rnd *rand.Rand, chairs int) token.Line {
	return line(1+rnd.Intn(2), rnd.Intn(chairs), rnd.Intn(chairs))
}

// smudge makes a sign, or a line, unreadable, if the readings do not become too many for
// the oracle.
func smudge(rnd *rand.Rand, b *token.Book) {
	if len(b.Lines) == 0 {
		return
	}
	i := rnd.Intn(len(b.Lines))
	kept := b.Lines[i]
	switch rnd.Intn(5) {
	case 0:
		b.Lines[i].Kind = 0
	case 1:
		b.Lines[i].Chair = -1
	case 2:
		b.Lines[i].Token = -1
	default:
		b.Lines[i] = line(0, -1, -1)
	}
	many := 1
	for _, l := range b.Lines {
		many *= len(readingsOf(b.Chairs, l))
	}
	if many > 300 {
		b.Lines[i] = kept
	}
}

// someCount returns a count that is near to the money after some lines.
func someCount(rnd *rand.Rand, b token.Book, money []int) token.Count {
	after := rnd.Intn(len(money))
	low := money[after] - rnd.Intn(2*b.Coin)
	high := money[after] + rnd.Intn(2*b.Coin)
	if rnd.Intn(4) == 0 {
		low = high
	}
	return counted(after, max(low, 0), high)
}

// eachBook calls the function with many books, each with a generator of its own
// for what else is chosen.
func eachBook(t *testing.T, f func(t *testing.T, b token.Book, rnd *rand.Rand)) {
	t.Helper()
	for seed := range 500 {
		rnd := rand.New(rand.NewSource(int64(seed)))
		f(t, someBook(rnd), rnd)
		if t.Failed() {
			return
		}
	}
}

// eachTrueBook is eachBook for the books that have a truth.
func eachTrueBook(t *testing.T, f func(t *testing.T, b token.Book, rnd *rand.Rand)) {
	t.Helper()
	met := 0
	eachBook(t, func(t *testing.T, b token.Book, rnd *rand.Rand) {
		if len(truthsOf(b)) > 0 {
			met++
			f(t, b, rnd)
		}
	})
	atLeast(t, met, 100, "books that have a truth")
}

// atLeast wants that a test has met enough of what it is about.
func atLeast(t *testing.T, met, wanted int, what string) {
	t.Helper()
	if !t.Failed() && met < wanted {
		t.Errorf("only %d %s", met, what)
	}
}

// The calls of a book of which the test says that they have a result.

func play(t *testing.T, b token.Book, truth []token.Line) ([]int, int) {
	t.Helper()
	money, mixed, e := token.Play(b, truth)
	if e != api.OK {
		t.Fatalf("Play of %v, %v: %v", b, truth, e)
	}
	return money, mixed
}

func out(t *testing.T, b token.Book, after int) (chairs, tokens []int) {
	t.Helper()
	chairs, tokens, e := token.Out(b, after)
	if e != api.OK {
		t.Fatalf("Out of %v, %d: %v", b, after, e)
	}
	return chairs, tokens
}

func money(t *testing.T, b token.Book, after int) token.Range {
	t.Helper()
	r, e := token.Money(b, after)
	if e != api.OK {
		t.Fatalf("Money of %v, %d: %v", b, after, e)
	}
	return r
}

func mixed(t *testing.T, b token.Book) token.Range {
	t.Helper()
	r, e := token.Mixed(b)
	if e != api.OK {
		t.Fatalf("Mixed of %v: %v", b, e)
	}
	return r
}

func was(t *testing.T, b token.Book, line int) []token.Line {
	t.Helper()
	l, e := token.Was(b, line)
	if e != api.OK {
		t.Fatalf("Was of %v, %d: %v", b, line, e)
	}
	return l
}

func leave(t *testing.T, b token.Book) []int {
	t.Helper()
	l, e := token.Leave(b)
	if e != api.OK {
		t.Fatalf("Leave of %v: %v", b, e)
	}
	return l
}
