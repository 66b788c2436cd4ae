package season_test

import (
	"math/rand"
	"slices"
	"testing"

	"foreshore/api"
	"foreshore/season"
	"foreshore/token"
)

const yes, no, may = season.Always, season.Never, season.Perhaps

func TestExamples(t *testing.T) {
	c := example(1)
	if e := season.CheckCase(c); e != api.OK {
		t.Errorf("CheckCase: %v", e)
	}
	if l, m := judge(t, c), liars(t, c); !slices.Equal(l, list(may, no, yes, may)) || !slices.Equal(m, list(may, no, may)) {
		t.Errorf("Judge, Liars: %v, %v", l, m)
	}
	if m, n := least(t, c), least(t, example(0)); m != 1 || n != 1 || hasTruth(t, example(0)) {
		t.Errorf("Least: %d, %d", m, n)
	}
	if a, b := play(t, c, read(2, 0)); !slices.Equal(a, []bool{false, false, true, true}) || !slices.Equal(b, []bool{true, false, false}) {
		t.Errorf("Play: %v, %v", a, b)
	}
	expect(t, denying, c, asked{claim: 2}, api.ErrNone)
	if l := decide(t, c, 0); !slices.Equal(l, list(0, 2)) {
		t.Errorf("Decide: %v", l)
	}
	if l, m := together(t, c), leave(t, c); !sameLists(l, [][]int{{0, 2}, {2, 3}}) || !slices.Equal(m, list(0, 1)) {
		t.Errorf("Together, Leave: %v, %v", l, m)
	}
}

// P9.1 by hand: when words are true, before, between and after hires and returns,
// with chairs and tokens that are mixed up.
func TestWordsByHand(t *testing.T) {
	b := token.Book{Chairs: 2, Coin: 1, Lines: lines(hire(0, 1), hire(1, 0), back(0, 0), hire(0, 0), back(1, 1))}
	outOf := map[season.Word]bool{
		out(1, 0): true, out(2, 0): true, out(4, 0): true, out(5, 0): true,
		out(2, 1): true, out(3, 1): true, out(4, 1): true,
		signOut(2, 0): true, signOut(4, 0): true, signOut(5, 0): true,
		signOut(1, 1): true, signOut(2, 1): true, signOut(3, 1): true, signOut(4, 1): true,
	}
	for after := range 6 {
		for n := range 2 {
			for _, w := range words(out(after, n), signOut(after, n)) {
				c := season.Case{Book: b, Witnesses: [][]season.Word{words(w), words(opposite(w)), words(w, opposite(w)), nil}, Claims: words(w, opposite(w))}
				is := outOf[w]
				claims, lies := play(t, c, b.Lines)
				if !slices.Equal(claims, []bool{is, !is}) || !slices.Equal(lies, []bool{!is, is, true, false}) {
					t.Errorf("Play of %v: %v, %v", w, claims, lies)
				}
			}
		}
	}
}

// nearTruths returns lists of which one sign, or the length, is another one.
func nearTruths(rnd *rand.Rand, truth []token.Line) [][]token.Line {
	out := [][]token.Line{nil, append(slices.Clone(truth), hire(0, 0)), append(slices.Clone(truth), back(0, 0)), truth[:max(0, len(truth)-1)]}
	for range 6 {
		if len(truth) > 0 {
			other := slices.Clone(truth)
			other[rnd.Intn(len(other))] = line(rnd.Intn(4), rnd.Intn(6)-1, rnd.Intn(6)-1)
			out = append(out, other)
		}
	}
	return out
}

// toldOf returns the truth of the book that has these lines, if there is one.
func toldOf(truths []told, l []token.Line) (told, bool) {
	i := slices.IndexFunc(truths, func(x told) bool { return slices.Equal(x.lines, l) })
	if i < 0 {
		return told{}, false
	}
	return truths[i], true
}

// P9.1 and P9.3: Play, ProveTruth and ProveDenial, of all truths of the book, of some
// of its other readings, and of lists that are near to truths.
func TestPlayAndProofs(t *testing.T) {
	met := map[api.Errno]int{}
	proofs, denials := map[bool]int{}, map[bool]int{}
	eachCase(t, func(t *testing.T, c season.Case, rnd *rand.Rand) {
		truths, tried := bookTruths(c.Book), allReadings(c.Book)
		tried = append(tried, nearTruths(rnd, truths[rnd.Intn(len(truths))].lines)...)
		for _, l := range tried {
			x, ok := toldOf(truths, l)
			if !ok && rnd.Intn(3) > 0 {
				continue
			}
			if !ok {
				met[api.ErrRange]++
				expect(t, playing, c, asked{truth: l}, api.ErrRange)
				expectProofs(t, c, l, false, nil)
				continue
			}
			met[api.OK]++
			var denied []bool
			claims, lying := play(t, c, l)
			for i, w := range c.Claims {
				denied = append(denied, liarsIn(c, x) <= c.Liars && !isTrue(x, w))
				denials[denied[i]]++
				if claims[i] != isTrue(x, w) {
					t.Errorf("Play of %v, %v: %v", c, l, claims)
				}
			}
			for i, words := range c.Witnesses {
				if lying[i] != lies(x, words) {
					t.Errorf("Play of %v, %v: %v", c, l, lying)
				}
			}
			proofs[liarsIn(c, x) <= c.Liars]++
			expectProofs(t, c, l, liarsIn(c, x) <= c.Liars, denied)
		}
	})
	atLeast(t, met[api.OK], 5000, "truths of books")
	atLeast(t, met[api.ErrRange], 5000, "lists that are no truths")
	for _, is := range []bool{false, true} {
		atLeast(t, proofs[is], 2000, "truths of books that are, or are not, ones of cases")
		atLeast(t, denials[is], 2000, "truths of books that are, or are not, denials")
	}
}

// expectProofs wants of a list that it is a truth or not, and which claims it denies.
func expectProofs(t *testing.T, c season.Case, l []token.Line, isTruth bool, denied []bool) {
	t.Helper()
	if season.ProveTruth(c, l) != isTruth {
		t.Errorf("ProveTruth of %v, %v is not %v", c, l, isTruth)
	}
	for i := -1; i <= len(c.Claims); i++ {
		want := i >= 0 && i < len(denied) && denied[i]
		if season.ProveDenial(c, i, l) != want {
			t.Errorf("ProveDenial of %v, %d, %v is not %v", c, i, l, want)
		}
	}
}

// P9.2: Judge and Liars.
func TestJudgeAndLiars(t *testing.T) {
	judged, met := map[int]int{}, map[int]int{}
	eachTrue(t, func(t *testing.T, c season.Case, truths []told, rnd *rand.Rand) {
		l, want := judge(t, c), judgedOf(c, truths)
		if !slices.Equal(l, want) {
			t.Errorf("Judge of %v: %v, not %v", c, l, want)
		}
		m, wanted := liars(t, c), liarsOf(c, truths)
		if !slices.Equal(m, wanted) {
			t.Errorf("Liars of %v: %v, not %v", c, m, wanted)
		}
		for _, v := range l {
			judged[v]++
		}
		for _, v := range m {
			met[v]++
		}
	})
	for _, v := range list(yes, no, may) {
		atLeast(t, judged[v], 100, "claims of a kind")
		atLeast(t, met[v], 100, "witnesses of a kind")
	}
}

// P9.3: Deny.
func TestDeny(t *testing.T) {
	met := map[api.Errno]int{}
	eachTrue(t, func(t *testing.T, c season.Case, truths []told, rnd *rand.Rand) {
		for i, w := range c.Claims {
			denials := that(truths, func(x told) bool { return !isTrue(x, w) })
			l, e := season.Deny(c, i)
			met[e]++
			if len(denials) == 0 {
				expect(t, denying, c, asked{claim: i}, api.ErrNone)
				continue
			}
			if _, ok := toldOf(denials, l); !ok || e != api.OK || !season.ProveDenial(c, i, l) {
				t.Errorf("Deny of %v, %d: %v, %v", c, i, l, e)
			}
		}
	})
	atLeast(t, met[api.OK], 500, "denials")
	atLeast(t, met[api.ErrNone], 100, "claims that are upheld")
}

// P9.4: Least, also of cases without a truth.
func TestLeast(t *testing.T) {
	met := map[int]int{}
	eachCase(t, func(t *testing.T, c season.Case, rnd *rand.Rand) {
		n, want := least(t, c), leastOf(c)
		met[n]++
		if n != want {
			t.Errorf("Least of %v: %d, not %d", c, n, want)
		}
	})
	for n := range 3 {
		atLeast(t, met[n], 50, "least numbers of a kind")
	}
	all := ofBook(0, nil, words(out(0, 0)), words(out(0, 1)), words(in(1, 0)), words(in(2, 1)))
	if n := least(t, all); n != 4 {
		t.Errorf("Least of %v: %d", all, n)
	}
}

// P9.5: Decide.
func TestDecide(t *testing.T) {
	met := map[int]int{}
	eachTrue(t, func(t *testing.T, c season.Case, truths []told, rnd *rand.Rand) {
		for claim := range c.Claims {
			l, want := decide(t, c, claim), decideOf(c, truths, claim)
			met[len(l)]++
			if !slices.Equal(l, want) {
				t.Errorf("Decide of %v, %d: %v, not %v", c, claim, l, want)
			}
		}
	})
	for many := range 3 {
		atLeast(t, met[many], 20, "numbers of witnesses who decide")
	}
}

// P9.5 by hand: claims that are not open, a witness who always lies, and one who
// decides that the claim is not true.
func TestDecideByHand(t *testing.T) {
	for _, x := range []struct {
		c    season.Case
		want []int
	}{
		// The claim is open: it is true, or not, if the witness does not lie.
		{ofBook(1, words(in(3, 0)), words(in(3, 0))), list(0)},
		{ofBook(1, words(in(3, 0)), words(out(3, 0))), list(0)},
		{ofBook(1, words(in(3, 0)), words(in(3, 1)), nil), list(0)},
		// What they say has nothing to do with it.
		{ofBook(1, words(in(3, 0)), words(signOut(3, 2))), nil},
		{ofBook(1, words(in(3, 0)), words(out(1, 0))), nil},
		// They always lie, or say nothing.
		{ofBook(1, words(in(3, 0)), words(in(3, 0), out(3, 0))), nil},
		{ofBook(1, words(in(3, 0)), nil, words()), nil},
		// The claim is upheld, or dismissed.
		{ofBook(0, words(in(3, 0)), words(in(3, 0))), nil},
		{ofBook(0, words(in(3, 0)), words(out(3, 0))), nil},
		{ofBook(1, words(out(1, 0)), words(in(3, 0))), nil},
		// If the chair 1 is out, the chair 0 is not; one always lies, and one does not speak of it.
		{ofBook(4, words(in(3, 0)), words(in(3, 0)), words(out(3, 1)), words(in(3, 0), out(0, 0)), words(signIn(2, 0))), list(0, 1)},
	} {
		if l := decide(t, x.c, 0); !slices.Equal(l, x.want) {
			t.Errorf("Decide of %v: %v, not %v", x.c, l, x.want)
		}
	}
}

// P9.6: Together and Leave.
func TestTogetherAndLeave(t *testing.T) {
	lists, sets := map[int]int{}, map[int]int{}
	eachTrue(t, func(t *testing.T, c season.Case, truths []told, rnd *rand.Rand) {
		l, want := together(t, c), togetherOf(c, truths)
		lists[len(l)]++
		if !sameLists(l, want) {
			t.Errorf("Together of %v: %v, not %v", c, l, want)
		}
		m, wanted := leave(t, c), leaveOf(c, truths)
		sets[len(m)]++
		if !slices.Equal(m, wanted) {
			t.Errorf("Leave of %v: %v, not %v", c, m, wanted)
		}
	})
	for many := range 2 {
		atLeast(t, lists[many+1], 50, "numbers of lists")
	}
	for many := range 3 {
		atLeast(t, sets[many], 30, "smallest sets of a length")
	}
}

// P9.6 by hand: which lists and which set come first, and claims none of which can
// be true.
func TestTogetherByHand(t *testing.T) {
	same := words(in(3, 0), in(3, 0), in(3, 0))
	for _, x := range []struct {
		claims []season.Word
		lists  [][]int
		leave  []int
	}{
		{nil, [][]int{{}}, nil},
		{words(out(0, 0), out(0, 1), in(1, 0), out(1, 1)), [][]int{{}}, list(0, 1, 2, 3)},
		{words(out(0, 0), in(0, 0)), [][]int{{1}}, list(0)},
		{words(in(3, 0), out(3, 0)), [][]int{{0}, {1}}, list(0)},
		{append(slices.Clone(same), out(3, 0)), [][]int{{0, 1, 2}, {3}}, list(3)},
		{append(words(out(3, 0)), same...), [][]int{{0}, {1, 2, 3}}, list(0)},
		{words(in(3, 0), out(3, 0), out(3, 0), in(3, 0)), [][]int{{0, 3}, {1, 2}}, list(0, 3)},
		{words(out(3, 0), in(3, 0), out(3, 0), in(3, 0)), [][]int{{0, 2}, {1, 3}}, list(0, 2)},
		// The token and the chair are not known each for itself.
		{words(signOut(2, 0), signIn(2, 0), in(3, 0), out(3, 0)), [][]int{{0, 2}, {0, 3}, {1, 2}, {1, 3}}, list(0, 2)},
		{words(out(0, 1), in(3, 0), out(2, 0), out(3, 0)), [][]int{{1, 2}, {2, 3}}, list(0, 1)},
		{words(in(3, 0), in(0, 0), in(0, 1), in(3, 1)), [][]int{{0, 1, 2}, {1, 2, 3}}, list(0)},
	} {
		c := ofBook(0, x.claims)
		if l, m := together(t, c), leave(t, c); !sameLists(l, x.lists) || !slices.Equal(m, x.leave) {
			t.Errorf("Together, Leave of %v: %v, %v", c, l, m)
		}
	}
}

// P9.6 by hand: a token that is one of four.
func TestOneOfFour(t *testing.T) {
	b := token.Book{Chairs: 4, Coin: 1, Lines: lines(hire(0, -1))}
	for _, x := range []struct {
		claims []season.Word
		lists  [][]int
		leave  []int
	}{
		{words(signOut(1, 0), signOut(1, 1), signOut(1, 2), signOut(1, 3)), [][]int{{0}, {1}, {2}, {3}}, list(0, 1, 2)},
		{words(signIn(1, 0), signIn(1, 1), signIn(1, 2), signIn(1, 3)), [][]int{{0, 1, 2}, {0, 1, 3}, {0, 2, 3}, {1, 2, 3}}, list(0)},
		{words(signIn(1, 3), signOut(1, 2), signOut(1, 3), signIn(1, 0)), [][]int{{0, 1, 3}, {2, 3}}, list(2)},
		{words(signOut(1, 3), signIn(1, 2), signIn(1, 0), signOut(1, 2)), [][]int{{0, 1, 2}, {2, 3}}, list(3)},
		{words(signOut(1, 0), signOut(1, 1), signIn(1, 2), signIn(1, 2)), [][]int{{0, 2, 3}, {1, 2, 3}}, list(0)},
		{words(signOut(1, 2), signOut(1, 1), signOut(1, 0)), [][]int{{0}, {1}, {2}}, list(0, 1)},
	} {
		c := season.Case{Book: b, Claims: x.claims}
		if l, m := together(t, c), leave(t, c); !sameLists(l, x.lists) || !slices.Equal(m, x.leave) {
			t.Errorf("Together, Leave of %v: %v, %v", c, l, m)
		}
	}
}
