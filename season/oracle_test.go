package season_test

import (
	"math/rand"
	"slices"
	"testing"

	"foreshore/api"
	"foreshore/season"
	"foreshore/token"
)

// The oracle: what the chapter defines, computed from all readings of all lines of
// the book and all lists of claims by the words of the definitions alone, without
// anything of the packages season and token but their types.

// signs returns what one sign can be: each number from low to high, if it cannot be
// read.
func signs(sign, unread, low, high int) []int {
	if sign != unread {
		return []int{sign}
	}
	var out []int
	for n := low; n <= high; n++ {
		out = append(out, n)
	}
	return out
}

func readingsOf(chairs int, l token.Line) []token.Line {
	var out []token.Line
	for _, kind := range signs(l.Kind, 0, 1, 2) {
		for _, chair := range signs(l.Chair, -1, 0, chairs-1) {
			for _, sign := range signs(l.Token, -1, 0, chairs-1) {
				out = append(out, line(kind, chair, sign))
			}
		}
	}
	return out
}

// allReadings returns all lists with one reading of each line.
func allReadings(b token.Book) [][]token.Line {
	out := [][]token.Line{nil}
	for _, l := range b.Lines {
		var longer [][]token.Line
		for _, before := range out {
			for _, r := range readingsOf(b.Chairs, l) {
				longer = append(longer, append(slices.Clone(before), r))
			}
		}
		out = longer
	}
	return out
}

// stand is which chairs and tokens are out.
type stand struct{ chairs, tokens [api.MaxTokenChairs]bool }

// standsOf returns what is out after 0, 1, .. and all lines, if they are possible.
func standsOf(lines []token.Line) ([]stand, bool) {
	var s stand
	out := []stand{s}
	for _, l := range lines {
		isHire := l.Kind == token.Hire
		if s.chairs[l.Chair] == isHire || s.tokens[l.Token] == isHire {
			return nil, false
		}
		s.chairs[l.Chair], s.tokens[l.Token] = isHire, isHire
		out = append(out, s)
	}
	return out, true
}

// moneyOf returns the money in the box of the book.
func moneyOf(b token.Book, s stand) int {
	money := b.Box
	for _, isOut := range s.chairs {
		if isOut {
			money += b.Coin
		}
	}
	return money
}

// told is a truth of the book, with what is out by it.
type told struct {
	lines  []token.Line
	stands []stand
}

// bookTruths returns the truths of the book.
func bookTruths(b token.Book) []told {
	var out []told
	for _, lines := range allReadings(b) {
		stands, ok := standsOf(lines)
		for _, k := range b.Counts {
			ok = ok && k.Money.Lo <= moneyOf(b, stands[k.After]) && moneyOf(b, stands[k.After]) <= k.Money.Hi
		}
		if ok {
			out = append(out, told{lines, stands})
		}
	}
	return out
}

func isTrue(x told, w season.Word) bool {
	if w.Token {
		return x.stands[w.After].tokens[w.Number] == w.Out
	}
	return x.stands[w.After].chairs[w.Number] == w.Out
}

func lies(x told, words []season.Word) bool {
	return slices.ContainsFunc(words, func(w season.Word) bool { return !isTrue(x, w) })
}

func liarsIn(c season.Case, x told) int {
	many := 0
	for _, words := range c.Witnesses {
		if lies(x, words) {
			many++
		}
	}
	return many
}

// that returns those of the truths of which something is so.
func that(truths []told, isSo func(x told) bool) []told {
	var out []told
	for _, x := range truths {
		if isSo(x) {
			out = append(out, x)
		}
	}
	return out
}

// truthsOf returns the truths of the case.
func truthsOf(c season.Case) []told {
	return that(bookTruths(c.Book), func(x told) bool { return liarsIn(c, x) <= c.Liars })
}

func verdictOf(truths []told, isSo func(x told) bool) int {
	switch len(that(truths, isSo)) {
	case len(truths):
		return yes
	case 0:
		return no
	}
	return may
}

func judgedOf(c season.Case, truths []told) []int {
	var out []int
	for _, w := range c.Claims {
		out = append(out, verdictOf(truths, func(x told) bool { return isTrue(x, w) }))
	}
	return out
}

func liarsOf(c season.Case, truths []told) []int {
	var out []int
	for _, words := range c.Witnesses {
		out = append(out, verdictOf(truths, func(x told) bool { return lies(x, words) }))
	}
	return out
}

func leastOf(c season.Case) int {
	least := len(c.Witnesses)
	for _, x := range bookTruths(c.Book) {
		least = min(least, liarsIn(c, x))
	}
	return least
}

func decideOf(c season.Case, truths []told, claim int) []int {
	holds := func(x told) bool { return isTrue(x, c.Claims[claim]) }
	var out []int
	for i, words := range c.Witnesses {
		honest := that(truths, func(x told) bool { return !lies(x, words) })
		if verdictOf(truths, holds) == may && len(honest) > 0 && verdictOf(honest, holds) != may {
			out = append(out, i)
		}
	}
	return out
}

// subsets returns all increasing lists of numbers from 0 to n-1, the shorter ones
// first, those of one length in their lexicographic order.
func subsets(n int) [][]int {
	var out [][]int
	for code := range 1 << n {
		var l []int
		for i := range n {
			if code>>i&1 == 1 {
				l = append(l, i)
			}
		}
		out = append(out, l)
	}
	slices.SortFunc(out, func(a, b []int) int {
		if len(a) != len(b) {
			return len(a) - len(b)
		}
		return slices.Compare(a, b)
	})
	return out
}

// others returns the numbers from 0 to n-1 that are not in the list.
func others(n int, l []int) []int {
	var out []int
	for i := range n {
		if !slices.Contains(l, i) {
			out = append(out, i)
		}
	}
	return out
}

// canBeTrue reports whether these claims can be true together.
func canBeTrue(c season.Case, truths []told, claims []int) bool {
	return slices.ContainsFunc(truths, func(x told) bool {
		return !slices.ContainsFunc(claims, func(i int) bool { return !isTrue(x, c.Claims[i]) })
	})
}

func togetherOf(c season.Case, truths []told) [][]int {
	var out [][]int
	for _, l := range subsets(len(c.Claims)) {
		withMore := slices.ContainsFunc(others(len(c.Claims), l), func(i int) bool {
			return canBeTrue(c, truths, append(slices.Clone(l), i))
		})
		if canBeTrue(c, truths, l) && !withMore {
			out = append(out, l)
		}
	}
	slices.SortFunc(out, slices.Compare[[]int])
	return out
}

func leaveOf(c season.Case, truths []told) []int {
	for _, l := range subsets(len(c.Claims)) {
		if canBeTrue(c, truths, others(len(c.Claims), l)) {
			return l
		}
	}
	panic("the case has no truth")
}

func list(l ...int) []int { return l }

func line(kind, chair, sign int) token.Line {
	return token.Line{Kind: kind, Chair: chair, Token: sign}
}

func hire(chair, sign int) token.Line { return line(token.Hire, chair, sign) }

func back(chair, sign int) token.Line { return line(token.Return, chair, sign) }

func lines(l ...token.Line) []token.Line { return l }

func counted(after, low, high int) token.Count {
	return token.Count{After: after, Money: token.Range{Lo: low, Hi: high}}
}

// out and in are words about chairs, signOut and signIn about tokens.
func out(after, n int) season.Word { return season.Word{After: after, Number: n, Out: true} }

func in(after, n int) season.Word { return season.Word{After: after, Number: n} }

func signOut(after, n int) season.Word {
	return season.Word{After: after, Token: true, Number: n, Out: true}
}

func signIn(after, n int) season.Word { return season.Word{After: after, Token: true, Number: n} }

func words(l ...season.Word) []season.Word { return l }

// opposite is the word turned round.
func opposite(w season.Word) season.Word {
	w.Out = !w.Out
	return w
}

// ofBook returns a case with the book of the chapter's examples.
func ofBook(liars int, claims []season.Word, witnesses ...[]season.Word) season.Case {
	b := token.Book{Chairs: 3, Coin: 5, Box: 20, Lines: lines(hire(0, 1), hire(1, -1), back(-1, 1))}
	return season.Case{Book: b, Witnesses: witnesses, Liars: liars, Claims: claims}
}

// example is the case of the chapter's examples.
func example(liars int) season.Case {
	claims := words(in(3, 1), signOut(2, 0), out(2, 1), in(3, 0))
	return ofBook(liars, claims, words(out(3, 0)), words(signOut(3, 2)), words(in(3, 0)))
}

// read is the book of the examples with its unreadable signs.
func read(sign, chair int) []token.Line { return lines(hire(0, 1), hire(1, sign), back(chair, 1)) }

// someCase returns a case with a book that has a truth, and words that are often about
// the same things.
func someCase(rnd *rand.Rand) season.Case {
	c := season.Case{Book: someBook(rnd)}
	truths := bookTruths(c.Book)
	for range rnd.Intn(api.MaxSeasonWitnesses + 1) {
		c.Witnesses = append(c.Witnesses, someWords(rnd, c, truths))
	}
	for range min(rnd.Intn(7), api.MaxSeasonClaims) {
		c.Claims = append(c.Claims, someWord(rnd, c, truths))
	}
	c.Liars = rnd.Intn(3)
	if rnd.Intn(6) == 0 {
		c.Liars = rnd.Intn(api.MaxSeasonWitnesses + 1)
	}
	return c
}

// someBook returns a book that has a truth.
func someBook(rnd *rand.Rand) token.Book {
	b := token.Book{Chairs: min(1+rnd.Intn(8), 4), Coin: 1 + rnd.Intn(api.MaxTokenCoin), Box: rnd.Intn(api.MaxTokenBox + 1)}
	for range 1 + rnd.Intn(3) + rnd.Intn(6) {
		b.Lines = append(b.Lines, someNext(rnd, b.Chairs, b.Lines))
	}
	stands, _ := standsOf(b.Lines)
	for range 3 * len(b.Lines) {
		smudge(rnd, &b)
	}
	for range rnd.Intn(3) * rnd.Intn(2) {
		after := rnd.Intn(len(b.Lines) + 1)
		money := moneyOf(b, stands[after])
		b.Counts = append(b.Counts, counted(after, max(money-rnd.Intn(2*b.Coin), 0), money+rnd.Intn(2*b.Coin)))
	}
	return b
}

// someNext returns a line that is possible after the others.
func someNext(rnd *rand.Rand, chairs int, before []token.Line) token.Line {
	for {
		l := line(1+rnd.Intn(2), rnd.Intn(chairs), rnd.Intn(chairs))
		if _, ok := standsOf(append(slices.Clone(before), l)); ok {
			return l
		}
	}
}

// smudge makes a sign unreadable, if the readings do not become too many for the
// oracle.
func smudge(rnd *rand.Rand, b *token.Book) {
	i := rnd.Intn(len(b.Lines))
	kept := b.Lines[i]
	switch rnd.Intn(9) {
	case 0:
		b.Lines[i].Kind = 0
	case 1, 2, 3, 4:
		b.Lines[i].Chair = -1
	default:
		b.Lines[i].Token = -1
	}
	many := 1
	for _, l := range b.Lines {
		many *= len(readingsOf(b.Chairs, l))
	}
	if many > 300 {
		b.Lines[i] = kept
	}
}

// someWords returns the words of one more witness, fewer than there can be.
func someWords(rnd *rand.Rand, c season.Case, truths []told) []season.Word {
	var out []season.Word
	for range min(rnd.Intn(5), api.MaxSeasonWords-1) {
		out = append(out, someWord(rnd, c, truths))
	}
	return out
}

// someWord returns one of the words of the case, or its opposite, or another word on
// which the truths mostly do not agree, if they can.
func someWord(rnd *rand.Rand, c season.Case, truths []told) season.Word {
	spoken := append(slices.Concat(c.Witnesses...), c.Claims...)
	if len(spoken) > 0 && rnd.Intn(3) == 0 {
		w := spoken[rnd.Intn(len(spoken))]
		w.Out = rnd.Intn(2) == 0
		return w
	}
	for tries := rnd.Intn(12); ; tries-- {
		w := season.Word{After: rnd.Intn(len(c.Book.Lines) + 1), Token: rnd.Intn(2) == 0, Number: rnd.Intn(c.Book.Chairs), Out: rnd.Intn(2) == 0}
		verdict := verdictOf(truths, func(x told) bool { return isTrue(x, w) })
		if verdict == may || tries < 0 {
			return w
		}
	}
}

// eachCase calls the function with many cases, each with a generator of its own for
// what else is chosen.
func eachCase(t *testing.T, f func(t *testing.T, c season.Case, rnd *rand.Rand)) {
	t.Helper()
	for seed := range 500 {
		rnd := rand.New(rand.NewSource(int64(seed)))
		f(t, someCase(rnd), rnd)
		if t.Failed() {
			return
		}
	}
}

// eachTrue is eachCase for the cases that have a truth, with the truths.
func eachTrue(t *testing.T, f func(t *testing.T, c season.Case, truths []told, rnd *rand.Rand)) {
	t.Helper()
	seen := 0
	eachCase(t, func(t *testing.T, c season.Case, rnd *rand.Rand) {
		if truths := truthsOf(c); len(truths) > 0 {
			seen++
			f(t, c, truths, rnd)
		}
	})
	atLeast(t, seen, 350, "cases that have a truth")
}

// atLeast wants that a test has met enough of what it is about.
func atLeast(t *testing.T, met, wanted int, what string) {
	t.Helper()
	if !t.Failed() && met < wanted {
		t.Errorf("only %d %s", met, what)
	}
}

// The calls of a case of which the test says that they have a result.

func play(t *testing.T, c season.Case, truth []token.Line) (claims, lies []bool) {
	t.Helper()
	claims, lies, e := season.Play(c, truth)
	if e != api.OK || len(claims) != len(c.Claims) || len(lies) != len(c.Witnesses) {
		t.Fatalf("Play of %v, %v: %v, %v, %v", c, truth, claims, lies, e)
	}
	return claims, lies
}

func judge(t *testing.T, c season.Case) []int {
	t.Helper()
	l, e := season.Judge(c)
	if e != api.OK || len(l) != len(c.Claims) {
		t.Fatalf("Judge of %v: %v, %v", c, l, e)
	}
	return l
}

func liars(t *testing.T, c season.Case) []int {
	t.Helper()
	l, e := season.Liars(c)
	if e != api.OK || len(l) != len(c.Witnesses) {
		t.Fatalf("Liars of %v: %v, %v", c, l, e)
	}
	return l
}

func least(t *testing.T, c season.Case) int {
	t.Helper()
	n, e := season.Least(c)
	if e != api.OK {
		t.Fatalf("Least of %v: %v", c, e)
	}
	return n
}

func decide(t *testing.T, c season.Case, claim int) []int {
	t.Helper()
	l, e := season.Decide(c, claim)
	if e != api.OK {
		t.Fatalf("Decide of %v, %d: %v", c, claim, e)
	}
	return l
}

func together(t *testing.T, c season.Case) [][]int {
	t.Helper()
	l, e := season.Together(c)
	if e != api.OK {
		t.Fatalf("Together of %v: %v", c, e)
	}
	return l
}

func leave(t *testing.T, c season.Case) []int {
	t.Helper()
	l, e := season.Leave(c)
	if e != api.OK {
		t.Fatalf("Leave of %v: %v", c, e)
	}
	return l
}

// hasTruth reports what Judge says of a case.
func hasTruth(t *testing.T, c season.Case) bool {
	t.Helper()
	_, e := season.Judge(c)
	if e != api.OK && e != api.ErrFalse {
		t.Fatalf("Judge of %v: %v", c, e)
	}
	return e == api.OK
}

// proved returns the truths of a case, as ProveTruth says.
func proved(c season.Case) [][]token.Line {
	var out [][]token.Line
	for _, l := range allReadings(c.Book) {
		if season.ProveTruth(c, l) {
			out = append(out, l)
		}
	}
	return out
}

func sameLists(a, b [][]int) bool { return slices.EqualFunc(a, b, slices.Equal[[]int]) }

// copied returns a case that shares no memory with the given one.
func copied(c season.Case) season.Case {
	c.Book.Lines, c.Book.Counts = slices.Clone(c.Book.Lines), slices.Clone(c.Book.Counts)
	c.Witnesses, c.Claims = slices.Clone(c.Witnesses), slices.Clone(c.Claims)
	for i, words := range c.Witnesses {
		c.Witnesses[i] = slices.Clone(words)
	}
	return c
}

// withClaims returns the case with these claims alone.
func withClaims(c season.Case, claims ...season.Word) season.Case {
	c = copied(c)
	c.Claims = claims
	return c
}
