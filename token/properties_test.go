package token_test

import (
	"math/rand"
	"slices"
	"testing"

	"foreshore/api"
	"foreshore/token"
)

// inside reports whether the first range is in the second one.
func inside(a, b token.Range) bool { return b.Lo <= a.Lo && a.Hi <= b.Hi }

// hasTruth reports what Mixed says of a book.
func hasTruth(t *testing.T, b token.Book) bool {
	t.Helper()
	_, e := token.Mixed(b)
	if e != api.OK && e != api.ErrFalse {
		t.Fatalf("Mixed of %v: %v", b, e)
	}
	return e == api.OK
}

// proved returns the truths of a book, as ProveTruth says.
func proved(b token.Book) [][]token.Line {
	var out [][]token.Line
	for _, l := range allReadings(b) {
		if token.ProveTruth(b, l) {
			out = append(out, l)
		}
	}
	return out
}

// isOut reports whether the last one of the lines about a chair, or a token, is
// a hire.
func isOut(l []token.Line, about func(x token.Line) bool) bool {
	is := false
	for _, x := range l {
		if about(x) {
			is = x.Kind == token.Hire
		}
	}
	return is
}

func chairIsOut(l []token.Line, chair int) bool {
	return isOut(l, func(x token.Line) bool { return x.Chair == chair })
}

func tokenIsOut(l []token.Line, sign int) bool {
	return isOut(l, func(x token.Line) bool { return x.Token == sign })
}

// P3.7, P2 and P3: what is returned holds in each truth that is proved, and both
// ends, and each line of Was, are reached.
func TestInEachTruth(t *testing.T) {
	eachTrueBook(t, func(t *testing.T, b token.Book, rnd *rand.Rand) {
		truths := proved(b)
		known := make([][]int, len(b.Lines)+1)
		var mixes []int
		for _, l := range truths {
			money, mixed := play(t, b, l)
			mixes = append(mixes, mixed)
			for after, n := range money {
				known[after] = append(known[after], n)
			}
		}
		if r := mixed(t, b); r != to(slices.Min(mixes), slices.Max(mixes)) {
			t.Errorf("Mixed of %v: %v, but %v", b, r, mixes)
		}
		for after, all := range known {
			if r := money(t, b, after); r != to(slices.Min(all), slices.Max(all)) {
				t.Errorf("Money of %v, %d: %v, but %v", b, after, r, all)
			}
			chairs, tokens := out(t, b, after)
			for i := range b.Chairs {
				for _, l := range truths {
					if contradicts(chairs[i], chairIsOut(l[:after], i)) || contradicts(tokens[i], tokenIsOut(l[:after], i)) {
						t.Errorf("Out of %v, %d: %v, %v, but %v", b, after, chairs, tokens, l)
					}
				}
			}
		}
		for i := range b.Lines {
			var met []token.Line
			for _, l := range truths {
				met = append(met, l[i])
			}
			slices.SortFunc(met, before)
			if l := was(t, b, i); !slices.Equal(l, slices.Compact(met)) {
				t.Errorf("Was of %v, %d: %v, but %v", b, i, l, met)
			}
		}
	})
}

func contradicts(verdict int, is bool) bool {
	return verdict == yes && !is || verdict == no && is
}

// P3.8 and P4: as many chairs are out as tokens, each with a coin in the box,
// and none is hired twice without a return.
func TestEachCoinOnce(t *testing.T) {
	met := 0
	eachTrueBook(t, func(t *testing.T, b token.Book, rnd *rand.Rand) {
		for _, l := range proved(b) {
			money, _ := play(t, b, l)
			for after, n := range money {
				chairs, tokens := 0, 0
				for i := range b.Chairs {
					if chairIsOut(l[:after], i) {
						chairs++
					}
					if tokenIsOut(l[:after], i) {
						tokens++
					}
				}
				met += chairs
				if chairs != tokens || n != b.Box+b.Coin*chairs {
					t.Errorf("%v of %v: %d after %d lines with %d chairs and %d tokens", l, b, n, after, chairs, tokens)
				}
			}
			for i, x := range l {
				if (x.Kind == token.Hire) == chairIsOut(l[:i], x.Chair) || (x.Kind == token.Hire) == tokenIsOut(l[:i], x.Token) {
					t.Errorf("%v is proved of %v", l, b)
				}
			}
		}
	})
	atLeast(t, met, 1000, "chairs that are out")
}

// P3.8: hires alone, all readable, have a first wrong line if and only if a
// chair or a token is in two of them.
func TestHiresAlone(t *testing.T) {
	met := map[bool]int{}
	for seed := range 500 {
		rnd := rand.New(rand.NewSource(int64(seed)))
		b := book(1+rnd.Intn(4), nil)
		for range rnd.Intn(4) {
			b.Lines = append(b.Lines, hire(rnd.Intn(b.Chairs), rnd.Intn(b.Chairs)))
		}
		chairs, tokens, twice := map[int]bool{}, map[int]bool{}, false
		for _, x := range b.Lines {
			twice = twice || chairs[x.Chair] || tokens[x.Token]
			chairs[x.Chair], tokens[x.Token] = true, true
		}
		met[twice]++
		if _, e := token.First(b); (e == api.OK) != twice {
			t.Errorf("First of %v: %v", b, e)
		}
	}
	atLeast(t, met[true], 100, "hires of which two are of one chair or token")
	atLeast(t, met[false], 100, "hires of different chairs and tokens")
}

// readable returns the book with one reading of its lines.
func readable(b token.Book, l []token.Line) token.Book {
	b = copied(b)
	b.Lines = slices.Clone(l)
	return b
}

// P3.9: a readable book has one truth at most, and nothing is perhaps so.
func TestReadable(t *testing.T) {
	met := 0
	eachBook(t, func(t *testing.T, b token.Book, rnd *rand.Rand) {
		truths := proved(b)
		if len(truths) == 0 {
			return
		}
		l := truths[rnd.Intn(len(truths))]
		x := readable(b, l)
		met += len(l)
		for _, other := range truths {
			if token.ProveTruth(x, other) != slices.Equal(other, l) {
				t.Errorf("ProveTruth of %v, %v", x, other)
			}
		}
		for i := range l {
			expectWas(t, x, i, l[i])
		}
		for after := range len(l) + 1 {
			chairs, tokens := out(t, x, after)
			if slices.Contains(chairs, may) || slices.Contains(tokens, may) {
				t.Errorf("Out of %v, %d: %v, %v", x, after, chairs, tokens)
			}
			if r := money(t, x, after); r.Lo != r.Hi {
				t.Errorf("Money of %v, %d: %v", x, after, r)
			}
		}
		if r := mixed(t, x); r.Lo != r.Hi {
			t.Errorf("Mixed of %v: %v", x, r)
		}
	})
	atLeast(t, met, 500, "readable lines")
}

// narrower wants that in the second book, which has at least the lines of the
// first one, no bounds are wider up to the end of the first one, a verdict
// other than Perhaps stays, and no line can be more.
func narrower(t *testing.T, a, b token.Book) {
	t.Helper()
	for after := range len(a.Lines) + 1 {
		if !inside(money(t, b, after), money(t, a, after)) {
			t.Errorf("Money of %v, %d is wider than of %v", b, after, a)
		}
		chairs, tokens := out(t, a, after)
		chairsThen, tokensThen := out(t, b, after)
		was, is := slices.Concat(chairs, tokens), slices.Concat(chairsThen, tokensThen)
		for i, v := range was {
			if v != may && is[i] != v {
				t.Errorf("Out of %v, %d: %v, of %v: %v", a, after, was, b, is)
			}
		}
	}
	for i := range a.Lines {
		l := was(t, a, i)
		for _, x := range was(t, b, i) {
			if !slices.Contains(l, x) {
				t.Errorf("Was of %v, %d is more than of %v", b, i, a)
			}
		}
	}
}

// eachNarrower calls narrower for many books and a narrower one of each that
// has a truth; those that the function does not give are left out.
func eachNarrower(t *testing.T, f func(b token.Book, rnd *rand.Rand) (token.Book, bool)) {
	t.Helper()
	met, none := 0, 0
	eachBook(t, func(t *testing.T, a token.Book, rnd *rand.Rand) {
		b, ok := f(copied(a), rnd)
		if !ok || token.CheckBook(b) != api.OK {
			return
		}
		if !hasTruth(t, b) {
			none++
			return
		}
		met++
		narrower(t, a, b)
		if len(a.Lines) == len(b.Lines) && !inside(mixed(t, b), mixed(t, a)) {
			t.Errorf("Mixed of %v is wider than of %v", b, a)
		}
	})
	atLeast(t, met, 50, "narrower books that have a truth")
	atLeast(t, none, 20, "narrower books that have no truth")
}

// P3.10: one more count.
func TestOneMoreCount(t *testing.T) {
	eachNarrower(t, func(b token.Book, rnd *rand.Rand) (token.Book, bool) {
		after := rnd.Intn(len(b.Lines) + 1)
		low := b.Box + b.Coin*rnd.Intn(b.Chairs+1)
		b.Counts = append(b.Counts, counted(after, low, low+rnd.Intn(2*b.Coin)))
		return b, true
	})
}

// P3.11: a sign that cannot be read becomes readable.
func TestWhatWasRead(t *testing.T) {
	eachNarrower(t, func(b token.Book, rnd *rand.Rand) (token.Book, bool) {
		for _, i := range rnd.Perm(len(b.Lines)) {
			x := &b.Lines[i]
			switch {
			case x.Kind == 0:
				x.Kind = 1 + rnd.Intn(2)
			case x.Chair < 0:
				x.Chair = rnd.Intn(b.Chairs)
			case x.Token < 0:
				x.Token = rnd.Intn(b.Chairs)
			default:
				continue
			}
			return b, true
		}
		return b, false
	})
}

// P3.16: one more line at the end.
func TestOneMoreLine(t *testing.T) {
	eachNarrower(t, func(b token.Book, rnd *rand.Rand) (token.Book, bool) {
		b.Lines = append(b.Lines, someLine(rnd, b.Chairs))
		if rnd.Intn(2) == 0 {
			b.Lines[len(b.Lines)-1].Chair = -1
		}
		return b, true
	})
}

// P3.12: the tokens exchange their numbers.
func TestOtherNumbers(t *testing.T) {
	eachBook(t, func(t *testing.T, a token.Book, rnd *rand.Rand) {
		b, number := copied(a), rnd.Perm(a.Chairs)
		for i, x := range b.Lines {
			if x.Token >= 0 {
				b.Lines[i].Token = number[x.Token]
			}
		}
		same(t, a, b)
		if !hasTruth(t, a) {
			return
		}
		for after := range len(a.Lines) + 1 {
			chairs, tokens := out(t, a, after)
			otherChairs, otherTokens := out(t, b, after)
			if !slices.Equal(chairs, otherChairs) {
				t.Errorf("Out of %v, %d: %v, of %v: %v", a, after, chairs, b, otherChairs)
			}
			for i, v := range tokens {
				if otherTokens[number[i]] != v {
					t.Errorf("Out of %v, %d: %v, of %v: %v", a, after, tokens, b, otherTokens)
				}
			}
		}
	})
}

// P3.13: chairs and tokens change places.
func TestChairsAndTokens(t *testing.T) {
	eachBook(t, func(t *testing.T, a token.Book, rnd *rand.Rand) {
		b := copied(a)
		for i, x := range b.Lines {
			b.Lines[i].Chair, b.Lines[i].Token = x.Token, x.Chair
		}
		same(t, a, b)
		if !hasTruth(t, a) {
			return
		}
		for after := range len(a.Lines) + 1 {
			chairs, tokens := out(t, a, after)
			otherChairs, otherTokens := out(t, b, after)
			if !slices.Equal(chairs, otherTokens) || !slices.Equal(tokens, otherChairs) {
				t.Errorf("Out of %v, %d: %v, %v, of %v: %v, %v", a, after, chairs, tokens, b, otherChairs, otherTokens)
			}
		}
	})
}

// same wants that two books have the same money, the same mixed returns, and the
// same wrong lines.
func same(t *testing.T, a, b token.Book) {
	t.Helper()
	n, e := token.First(a)
	if m, f := token.First(b); n != m || e != f {
		t.Errorf("First of %v: %d, %v, of %v: %d, %v", a, n, e, b, m, f)
	}
	l, e := token.Leave(a)
	if m, f := token.Leave(b); !slices.Equal(l, m) || e != f {
		t.Errorf("Leave of %v: %v, %v, of %v: %v, %v", a, l, e, b, m, f)
	}
	if hasTruth(t, a) != hasTruth(t, b) {
		t.Errorf("only one has a truth: %v, %v", a, b)
		return
	}
	if !hasTruth(t, a) {
		return
	}
	for after := range len(a.Lines) + 1 {
		expectMoney(t, b, after, money(t, a, after))
	}
	expectMixed(t, b, mixed(t, a))
}

// P3.14 and P6: the lines before the first wrong one, and with it.
func TestLinesUpToTheFirstWrongOne(t *testing.T) {
	met := 0
	eachBook(t, func(t *testing.T, b token.Book, rnd *rand.Rand) {
		n, e := token.First(b)
		if (e == api.ErrNone) != hasTruth(t, upTo(b, len(b.Lines))) {
			t.Errorf("First of %v: %v", b, e)
		}
		if e != api.OK {
			return
		}
		met++
		if !hasTruth(t, upTo(b, n)) || hasTruth(t, upTo(b, n+1)) {
			t.Errorf("First of %v: %d", b, n)
		}
	})
	atLeast(t, met, 50, "books with a first wrong line")
}

// P3.15, P5 and P6: no set before the smallest one can be left out; without
// counts some set always can.
func TestSmallestSet(t *testing.T) {
	met := 0
	eachBook(t, func(t *testing.T, b token.Book, rnd *rand.Rand) {
		if _, e := token.Leave(upTo(b, len(b.Lines))); e != api.OK {
			t.Errorf("Leave of %v without counts: %v", b, e)
		}
		l, e := token.Leave(b)
		if e == api.OK && !hasTruth(t, without(b, l)) {
			t.Errorf("Leave of %v: %v, but there is no truth without it", b, l)
		}
		for _, other := range subsets(len(b.Lines)) {
			if e == api.OK && slices.Equal(other, l) {
				break
			}
			met++
			if hasTruth(t, without(b, other)) {
				t.Errorf("Leave of %v: %v, but there is a truth without %v", b, l, other)
			}
		}
	})
	atLeast(t, met, 500, "sets before the smallest one")
}

// P7: counts in any order.
func TestAnyOrder(t *testing.T) {
	eachBook(t, func(t *testing.T, a token.Book, rnd *rand.Rand) {
		b := copied(a)
		rnd.Shuffle(len(b.Counts), func(i, j int) { b.Counts[i], b.Counts[j] = b.Counts[j], b.Counts[i] })
		same(t, a, b)
		if hasTruth(t, a) {
			narrower(t, a, b)
			narrower(t, b, a)
		}
	})
}

// R3: nil and a list without elements.
func TestNilIsEmpty(t *testing.T) {
	for _, b := range []token.Book{book(2, nil), {Chairs: 2, Coin: 5, Box: 20, Lines: []token.Line{}, Counts: []token.Count{}}} {
		for _, truth := range [][]token.Line{nil, {}} {
			if l, n := play(t, b, truth); !slices.Equal(l, []int{20}) || n != 0 {
				t.Errorf("Play of %v: %v, %d", b, l, n)
			}
			if !token.ProveTruth(b, truth) {
				t.Errorf("not proved: %v", b)
			}
		}
		expectOut(t, b, 0, []int{no, no}, []int{no, no})
		expectMoney(t, b, 0, to(20, 20))
		expectMixed(t, b, to(0, 0))
		if l := leave(t, b); len(l) != 0 {
			t.Errorf("Leave of %v: %v", b, l)
		}
		expect(t, finding, b, nil, 0, api.ErrNone)
	}
}

// R4: arguments are not written to, also not behind their ends.
func TestArgumentsAreKept(t *testing.T) {
	whole := book(3, lines(hire(0, 1), hire(1, -1), back(-1, 1), hire(0, 0), hire(2, 0), line(0, 2, 2), line(7, 7, 7)),
		counted(2, 30, 30), counted(5, 20, 35), counted(6, 0, 20), counted(7, 7, 7))
	truth := lines(hire(0, 1), hire(1, 2), back(0, 1), hire(0, 0), hire(2, 1), back(2, 2), line(7, 7, 7))
	kept, list := copied(whole), slices.Clone(truth)
	for many := range 7 {
		for counts := range 4 {
			b := whole
			b.Lines, b.Counts = b.Lines[:many], b.Counts[:counts]
			token.CheckBook(b)
			for _, c := range calls() {
				c.do(b, truth[:many], many)
				c.do(b, truth[:many], 0)
			}
			token.ProveTruth(b, truth[:many])
		}
	}
	if !slices.Equal(whole.Lines, kept.Lines) || !slices.Equal(whole.Counts, kept.Counts) || !slices.Equal(truth, list) {
		t.Errorf("%v, %v became %v, %v", kept, list, whole, truth)
	}
}

// R4: results are in memory of their own, also behind their ends.
func TestResultsAreApart(t *testing.T) {
	b := book(2, lines(hire(0, 0), back(0, 0)))
	chairs, tokens := out(t, b, 1)
	_ = append(chairs, 77, 77, 77)
	chairs[0] = 77
	if !slices.Equal(tokens, []int{yes, no}) {
		t.Errorf("lists of Out share memory: %v, %v", chairs, tokens)
	}
	truth := lines(hire(0, 0), back(0, 0))
	known, _ := play(t, b, truth)
	l := was(t, b, 0)
	known[0], l[0] = 77, line(77, 77, 77)
	left := leave(t, example(5))
	left[0] = 77
	if !slices.Equal(b.Lines, truth) || !slices.Equal(truth, lines(hire(0, 0), back(0, 0))) {
		t.Errorf("a result shares memory with an argument: %v, %v", b, truth)
	}
	expectOut(t, b, 1, []int{yes, no}, []int{yes, no})
	expectWas(t, b, 0, hire(0, 0))
	if l, _ := play(t, b, truth); !slices.Equal(l, []int{20, 25, 20}) {
		t.Errorf("Play is kept from call to call: %v", l)
	}
	if l := leave(t, example(5)); !slices.Equal(l, []int{3}) {
		t.Errorf("Leave is kept from call to call: %v", l)
	}
}
