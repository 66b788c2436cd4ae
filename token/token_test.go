package token_test

import (
	"math/rand"
	"slices"
	"testing"

	"foreshore/api"
	"foreshore/token"
)

const yes, no, may = token.Always, token.Never, token.Perhaps

// expectOut wants these verdicts after so many lines.
func expectOut(t *testing.T, b token.Book, after int, chairs, tokens []int) {
	t.Helper()
	c, s := out(t, b, after)
	if !slices.Equal(c, chairs) || !slices.Equal(s, tokens) {
		t.Errorf("Out of %v, %d: %v, %v", b, after, c, s)
	}
}

func expectMoney(t *testing.T, b token.Book, after int, want token.Range) {
	t.Helper()
	if r := money(t, b, after); r != want {
		t.Errorf("Money of %v, %d: %v", b, after, r)
	}
}

func expectMixed(t *testing.T, b token.Book, want token.Range) {
	t.Helper()
	if r := mixed(t, b); r != want {
		t.Errorf("Mixed of %v: %v", b, r)
	}
}

func expectWas(t *testing.T, b token.Book, line int, want ...token.Line) {
	t.Helper()
	if l := was(t, b, line); !slices.Equal(l, want) {
		t.Errorf("Was of %v, %d: %v", b, line, l)
	}
}

func TestExamples(t *testing.T) {
	b := example(4)
	if e := token.CheckBook(b); e != api.OK {
		t.Errorf("CheckBook: %v", e)
	}
	expectWas(t, b, 1, hire(1, 2))
	expectWas(t, b, 2, back(0, 1))
	expectOut(t, b, 2, []int{yes, yes, no}, []int{no, yes, yes})
	expectOut(t, b, 4, []int{yes, yes, no}, []int{yes, no, yes})
	expectMoney(t, b, 2, to(30, 30))
	expectMoney(t, b, 4, to(30, 30))
	expectMixed(t, b, to(0, 0))
	expectWas(t, example(3), 1, hire(1, 0), hire(1, 2))
	expectMixed(t, example(3), to(0, 1))
	if n, e := token.First(example(5)); n != 4 || e != api.OK {
		t.Errorf("First: %d, %v", n, e)
	}
	if l := leave(t, example(5)); !slices.Equal(l, []int{3}) {
		t.Errorf("Leave: %v", l)
	}
	expectMoney(t, book(3, lines(line(0, 0, 0))), 1, to(25, 25))
}

// The third example of the document: a hire of a chair that is out is not
// possible, whoever has it. Nor is one with a token that is out, nor a return
// of what is at the stand.
func TestPossible(t *testing.T) {
	for _, x := range []struct {
		lines []token.Line
		want  bool
	}{
		{lines(hire(0, 0), hire(0, 1)), false},
		{lines(hire(0, 0), hire(1, 0)), false},
		{lines(hire(0, 0), hire(0, 0)), false},
		{lines(hire(0, 0), hire(1, 1)), true},
		{lines(back(0, 0)), false},
		{lines(hire(0, 0), back(1, 0)), false},
		{lines(hire(0, 0), back(0, 1)), false},
		{lines(hire(0, 1), back(0, 1)), true},
		{lines(hire(0, 0), back(0, 0), back(0, 0)), false},
		{lines(hire(0, 0), back(0, 0), hire(0, 1)), true},
		{lines(hire(0, 0), hire(1, 1), back(0, 1), hire(0, 0)), false},
		{lines(hire(0, 0), hire(1, 1), back(0, 1), hire(1, 1)), false},
		{lines(hire(0, 0), hire(1, 1), back(0, 1), hire(0, 1)), true},
		{lines(hire(0, 0), hire(1, 1), back(0, 1), back(1, 0)), true},
	} {
		b := book(2, x.lines)
		if _, _, e := token.Play(b, x.lines); (e == api.OK) != x.want {
			t.Errorf("Play of %v: %v", b, e)
		}
		if token.ProveTruth(b, x.lines) != x.want {
			t.Errorf("ProveTruth of %v is not %v", b, x.want)
		}
		if _, e := token.First(b); (e == api.ErrNone) != x.want {
			t.Errorf("First of %v: %v", b, e)
		}
	}
}

// P3.1 and P3.3 by hand: a return is mixed if the last hires of its chair and of
// its token are not the same line, whoever had them before.
func TestMixedReturns(t *testing.T) {
	for _, x := range []struct {
		lines []token.Line
		want  int
	}{
		{nil, 0},
		{lines(hire(0, 1)), 0},
		{lines(hire(0, 1), back(0, 1)), 0},
		{lines(hire(0, 1), hire(1, 0), back(0, 1), back(1, 0)), 0},
		{lines(hire(0, 1), hire(1, 0), back(0, 0)), 1},
		{lines(hire(0, 1), hire(1, 0), back(0, 0), back(1, 1)), 2},
		{lines(hire(0, 0), hire(1, 1), back(0, 1), hire(0, 1), back(0, 1)), 1},
		{lines(hire(0, 0), hire(1, 1), back(0, 1), hire(0, 1), back(1, 0)), 2},
		{lines(hire(0, 0), hire(1, 1), back(0, 1), hire(0, 1), back(1, 1), back(0, 0)), 3},
		{lines(hire(0, 0), back(0, 0), hire(0, 1), hire(1, 0), back(0, 1), back(1, 0)), 0},
		{lines(hire(0, 0), hire(1, 1), hire(2, 2), back(0, 1), back(1, 2), back(2, 0)), 3},
		{lines(hire(0, 0), hire(1, 1), hire(2, 2), back(2, 2), back(0, 1), back(1, 0)), 2},
	} {
		b := book(3, x.lines)
		if _, n := play(t, b, x.lines); n != x.want {
			t.Errorf("Play of %v: %d mixed returns", b, n)
		}
		expectMixed(t, b, to(x.want, x.want))
	}
}

// P3.1 by hand: the money after each number of lines, up to the greatest box
// and the greatest coin.
func TestMoneyOfPlay(t *testing.T) {
	for _, x := range []struct {
		b    token.Book
		want []int
	}{
		{book(1, nil), []int{20}},
		{book(2, lines(hire(0, 1), hire(1, 0), back(0, 0), hire(0, 0))), []int{20, 25, 30, 25, 30}},
		{token.Book{Chairs: 1, Coin: 1, Lines: lines(hire(0, 0), back(0, 0))}, []int{0, 1, 0}},
		{token.Book{Chairs: 4, Coin: 99, Box: 999, Lines: lines(hire(0, 3), hire(1, 2), hire(2, 1), hire(3, 0), back(3, 3))}, []int{999, 1098, 1197, 1296, 1395, 1296}},
	} {
		if l, _ := play(t, x.b, x.b.Lines); !slices.Equal(l, x.want) {
			t.Errorf("Play of %v: %v", x.b, l)
		}
		for after, n := range x.want {
			expectMoney(t, x.b, after, to(n, n))
		}
	}
}

// P3.2 to P3.4 by hand: nothing can be read, with and without counts.
func TestNothingCanBeRead(t *testing.T) {
	two := lines(line(0, -1, -1), line(0, -1, -1))
	hires := lines(hire(0, 0), hire(0, 1), hire(1, 0), hire(1, 1))
	backs := lines(back(0, 0), back(0, 1), back(1, 0), back(1, 1))
	b := book(2, two)
	expectOut(t, b, 0, []int{no, no}, []int{no, no})
	expectOut(t, b, 1, []int{may, may}, []int{may, may})
	expectOut(t, b, 2, []int{may, may}, []int{may, may})
	expectMoney(t, b, 0, to(20, 20))
	expectMoney(t, b, 1, to(25, 25))
	expectMoney(t, b, 2, to(20, 30))
	expectMixed(t, b, to(0, 0))
	expectWas(t, b, 0, hires...)
	expectWas(t, b, 1, slices.Concat(hires, backs)...)
	b = book(2, two, counted(2, 21, 99))
	expectOut(t, b, 2, []int{yes, yes}, []int{yes, yes})
	expectMoney(t, b, 2, to(30, 30))
	expectWas(t, b, 1, hires...)
	b = book(2, two, counted(2, 20, 29), counted(0, 20, 20))
	expectOut(t, b, 1, []int{may, may}, []int{may, may})
	expectOut(t, b, 2, []int{no, no}, []int{no, no})
	expectWas(t, b, 1, backs...)
	one := book(1, lines(line(0, -1, -1), line(0, -1, -1), line(0, -1, -1)))
	expectOut(t, one, 3, []int{yes}, []int{yes})
	expectWas(t, one, 1, back(0, 0))
	expectWas(t, one, 2, hire(0, 0))
}

// P3.2 by hand: a chair is out surely although it is not known with which
// token, and the other way round.
func TestOutWithAnyToken(t *testing.T) {
	expectOut(t, book(2, lines(hire(0, -1))), 1, []int{yes, no}, []int{may, may})
	expectOut(t, book(2, lines(hire(-1, 1))), 1, []int{may, may}, []int{no, yes})
	expectOut(t, example(3), 2, []int{yes, yes, no}, []int{may, yes, may})
	expectOut(t, example(3), 3, []int{may, may, no}, []int{may, no, may})
	expectOut(t, book(4, nil), 0, []int{no, no, no, no}, []int{no, no, no, no})
}

// P3.3 by hand: returns that can have been mixed.
func TestPerhapsMixed(t *testing.T) {
	pair := lines(hire(0, 0), hire(1, 1))
	expectMixed(t, book(2, append(pair, back(-1, -1), back(-1, -1))), to(0, 2))
	expectMixed(t, book(2, append(pair, back(0, 1), back(-1, -1))), to(2, 2))
	expectMixed(t, book(2, append(pair, back(0, -1))), to(0, 1))
	expectMixed(t, book(2, lines(hire(0, -1), hire(1, -1), back(0, 0))), to(0, 1))
}

// P3.5 and P3.6 by hand: several sets of the same length, lines that are wrong
// alone, and lines that are wrong only because of counts.
func TestFirstAndLeave(t *testing.T) {
	pair := lines(hire(0, 0), hire(1, 1))
	for _, x := range []struct {
		b     token.Book
		first int
		e     api.Errno
		leave []int
	}{
		{book(2, nil), 0, api.ErrNone, nil},
		{example(4), 0, api.ErrNone, nil},
		{book(2, lines(back(0, 0))), 0, api.OK, []int{0}},
		{book(2, lines(hire(0, 0), hire(0, 1))), 1, api.OK, []int{0}},
		{book(2, lines(hire(0, 0), hire(0, 1), back(0, 1))), 1, api.OK, []int{0}},
		{book(2, lines(hire(0, 0), hire(0, 1), back(0, 0))), 1, api.OK, []int{1}},
		{book(2, lines(hire(0, 0), hire(1, 1), hire(0, 1))), 2, api.OK, []int{2}},
		{book(1, lines(hire(0, 0), hire(0, 0), hire(0, 0))), 1, api.OK, []int{0, 1}},
		{book(1, lines(hire(0, -1), line(0, -1, 0), hire(-1, -1), hire(0, 0))), 3, api.OK, []int{2}},
		{book(2, lines(back(0, 0), hire(0, 0), back(1, 1))), 0, api.OK, []int{0, 2}},
		{book(2, slices.Repeat(lines(back(0, 0)), 8)), 0, api.OK, []int{0, 1, 2, 3, 4, 5, 6, 7}},
		{book(2, pair, counted(2, 25, 25)), 0, api.ErrNone, []int{0}},
		{book(2, pair, counted(1, 25, 25), counted(2, 25, 25)), 0, api.ErrNone, []int{1}},
		{book(2, pair, counted(1, 20, 20), counted(2, 25, 25)), 0, api.ErrNone, []int{0}},
		{book(2, pair, counted(2, 20, 20)), 0, api.ErrNone, []int{0, 1}},
		{book(2, pair, counted(1, 20, 20)), 0, api.ErrNone, []int{0}},
		{book(2, lines(hire(0, 0), hire(0, 1), back(0, 0)), counted(2, 25, 25), counted(3, 25, 25)), 1, api.OK, []int{0, 2}},
		{book(2, lines(hire(0, 0), hire(0, 1), back(0, 0)), counted(2, 25, 25)), 1, api.OK, []int{1}},
	} {
		if n, e := token.First(x.b); n != x.first || e != x.e {
			t.Errorf("First of %v: %d, %v", x.b, n, e)
		}
		if l := leave(t, x.b); !slices.Equal(l, x.leave) {
			t.Errorf("Leave of %v: %v", x.b, l)
		}
	}
}

// P3.1: Play and ProveTruth of all readings of many books, and of lists that
// are nearly one.
func TestPlayAndItsProof(t *testing.T) {
	met := map[bool]int{}
	eachBook(t, func(t *testing.T, b token.Book, rnd *rand.Rand) {
		for _, l := range allReadings(b) {
			states, ok := statesOf(b, l)
			met[ok]++
			money, mixed, e := token.Play(b, l)
			switch {
			case (e == api.OK) != ok || !ok && e != api.ErrRange:
				t.Errorf("Play of %v, %v: %v", b, l, e)
			case ok && (!slices.Equal(money, monies(states)) || mixed != states[len(l)].mixed):
				t.Errorf("Play of %v, %v: %v, %d", b, l, money, mixed)
			}
			if token.ProveTruth(b, l) != (ok && allRight(b, states)) {
				t.Errorf("ProveTruth of %v, %v", b, l)
			}
		}
		if all := allReadings(b); len(b.Lines) > 0 {
			for _, l := range nearLists(rnd, b, all[rnd.Intn(len(all))]) {
				if _, _, e := token.Play(b, l); e != api.ErrRange || token.ProveTruth(b, l) {
					t.Errorf("Play of %v, %v: %v", b, l, e)
				}
			}
		}
	})
	atLeast(t, met[true], 1000, "possible lists")
	atLeast(t, met[false], 1000, "lists that are not possible")
}

func monies(states []state) []int {
	var out []int
	for _, s := range states {
		out = append(out, s.money)
	}
	return out
}

// nearLists returns lists that are not readings of the book: with one line more
// or less, or with one sign that is not that of the book, or is none.
func nearLists(rnd *rand.Rand, b token.Book, l []token.Line) [][]token.Line {
	out := [][]token.Line{nil, l[:len(l)-1], append(slices.Clone(l), l[0]), append(slices.Clone(l), hire(0, 0))}
	i := rnd.Intn(len(l))
	odd := []token.Line{
		line(0, l[i].Chair, l[i].Token), line(3, l[i].Chair, l[i].Token), line(-1, l[i].Chair, l[i].Token),
		line(l[i].Kind, -1, l[i].Token), line(l[i].Kind, b.Chairs, l[i].Token), line(l[i].Kind, 9, l[i].Token),
		line(l[i].Kind, l[i].Chair, -1), line(l[i].Kind, l[i].Chair, b.Chairs), line(l[i].Kind, l[i].Chair, -9),
	}
	if b.Lines[i].Kind != 0 {
		odd = append(odd, line(3-l[i].Kind, l[i].Chair, l[i].Token))
	}
	if b.Lines[i].Chair >= 0 && b.Chairs > 1 {
		odd = append(odd, line(l[i].Kind, (l[i].Chair+1)%b.Chairs, l[i].Token))
	}
	if b.Lines[i].Token >= 0 && b.Chairs > 1 {
		odd = append(odd, line(l[i].Kind, l[i].Chair, (l[i].Token+1)%b.Chairs))
	}
	for _, o := range odd {
		other := slices.Clone(l)
		other[i] = o
		out = append(out, other)
	}
	return out
}

// P3.2: Out after each number of lines.
func TestOut(t *testing.T) {
	met := map[int]int{}
	eachTrueBook(t, func(t *testing.T, b token.Book, rnd *rand.Rand) {
		truths := truthsOf(b)
		for after := range len(b.Lines) + 1 {
			c, s := out(t, b, after)
			if !slices.Equal(c, outOf(truths, b.Chairs, after, chairsOf)) || !slices.Equal(s, outOf(truths, b.Chairs, after, tokensOf)) {
				t.Errorf("Out of %v, %d: %v, %v", b, after, c, s)
			}
			for _, v := range slices.Concat(c, s) {
				met[v]++
			}
		}
	})
	for _, v := range []int{yes, no, may} {
		atLeast(t, met[v], 500, "verdicts of one kind")
	}
}

// P3.3: Money after each number of lines, and Mixed.
func TestMoneyAndMixed(t *testing.T) {
	wide, wideMixed := 0, 0
	eachTrueBook(t, func(t *testing.T, b token.Book, rnd *rand.Rand) {
		truths := truthsOf(b)
		for after := range len(b.Lines) + 1 {
			r := money(t, b, after)
			if r != moneyOf(truths, after) {
				t.Errorf("Money of %v, %d: %v", b, after, r)
			}
			if r.Lo < r.Hi {
				wide++
			}
		}
		r := mixed(t, b)
		if r != mixedOf(truths) {
			t.Errorf("Mixed of %v: %v", b, r)
		}
		if r.Lo < r.Hi {
			wideMixed++
		}
	})
	atLeast(t, wide, 30, "numbers of lines after which the money is not known")
	atLeast(t, wideMixed, 30, "books whose mixed returns are not known")
}

// P3.4: Was of each line.
func TestWas(t *testing.T) {
	met := map[bool]int{}
	eachTrueBook(t, func(t *testing.T, b token.Book, rnd *rand.Rand) {
		truths := truthsOf(b)
		for i, x := range b.Lines {
			l := was(t, b, i)
			if !slices.Equal(l, wasOf(truths, i)) {
				t.Errorf("Was of %v, %d: %v", b, i, l)
			}
			if can := readingsOf(b.Chairs, x); len(can) > 1 {
				met[len(l) < len(can)]++
			}
		}
	})
	atLeast(t, met[true], 100, "lines that cannot be all that is read")
	atLeast(t, met[false], 30, "lines that can be all that is read")
}

// P3.5 and P3.6: First and Leave.
func TestFirstAndLeaveOfManyBooks(t *testing.T) {
	met := map[int]int{}
	short := 0
	eachBook(t, func(t *testing.T, b token.Book, rnd *rand.Rand) {
		want, wantError := firstOf(b), api.OK
		if want < 0 {
			want, wantError = 0, api.ErrNone
		}
		if n, e := token.First(b); n != want || e != wantError {
			t.Errorf("First of %v: %d, %v", b, n, e)
		}
		l, e := token.Leave(b)
		set, ok := leaveOf(b)
		if !slices.Equal(l, set) || (e == api.OK) != ok || !ok && e != api.ErrShort {
			t.Errorf("Leave of %v: %v, %v, not %v", b, l, e, set)
		}
		if !ok {
			short++
			return
		}
		met[len(l)]++
	})
	for many := range 4 {
		atLeast(t, met[many], 10, "smallest sets of one length")
	}
	atLeast(t, short, 20, "books without a smallest set")
}

// The most readings that a book can have, in as many lines as it can have.
func TestMostReadings(t *testing.T) {
	b := book(4, lines(hire(0, 0), line(0, -1, -1), hire(1, -1), hire(-1, 2), back(0, 0), back(-1, 3), back(1, 2), line(0, 2, 1)), counted(5, 25, 40))
	if n := len(allReadings(b)); n != api.MaxTokenTruths {
		t.Fatalf("%d readings", n)
	}
	expectAll(t, b)
	b.Counts = append(b.Counts, counted(8, 0, 19))
	if _, e := token.Leave(b); e != api.ErrShort {
		t.Errorf("Leave of %v: %v", b, e)
	}
}

// expectAll wants all that the oracle says of a book.
func expectAll(t *testing.T, b token.Book) {
	t.Helper()
	truths := truthsOf(b)
	for after := range len(b.Lines) + 1 {
		expectOut(t, b, after, outOf(truths, b.Chairs, after, chairsOf), outOf(truths, b.Chairs, after, tokensOf))
		expectMoney(t, b, after, moneyOf(truths, after))
	}
	expectMixed(t, b, mixedOf(truths))
	for i := range b.Lines {
		expectWas(t, b, i, wasOf(truths, i)...)
	}
}
