package season_test

import (
	"math/rand"
	"slices"
	"testing"

	"foreshore/api"
	"foreshore/season"
	"foreshore/token"
)

// isPart reports whether all elements of the first list are in the second one.
func isPart(a, b []int) bool {
	return !slices.ContainsFunc(a, func(n int) bool { return !slices.Contains(b, n) })
}

// disagrees reports whether a verdict is not so of something that is so, or is not.
func disagrees(verdict int, is bool) bool {
	return verdict == yes && !is || verdict == no && is
}

// with returns the case with one more witness.
func with(c season.Case, words []season.Word) season.Case {
	c = copied(c)
	c.Witnesses = append(c.Witnesses, words)
	return c
}

// P9.7, P2 and P3: what is returned holds in each truth that is proved, and what is
// perhaps so is so in some of them, and is not in others.
func TestInEachTruth(t *testing.T) {
	eachTrue(t, func(t *testing.T, c season.Case, _ []told, rnd *rand.Rand) {
		judged, said := judge(t, c), liars(t, c)
		metClaims, metLies := make([][2]bool, len(judged)), make([][2]bool, len(said))
		for _, l := range proved(c) {
			claims, lies := play(t, c, l)
			for i, is := range claims {
				metClaims[i][index(is)] = true
				if disagrees(judged[i], is) || season.ProveDenial(c, i, l) == is {
					t.Errorf("Judge of %v: %v, but %v", c, judged, l)
				}
			}
			for i, is := range lies {
				metLies[i][index(is)] = true
				if disagrees(said[i], is) {
					t.Errorf("Liars of %v: %v, but %v", c, said, l)
				}
			}
		}
		for i, met := range metClaims {
			if (judged[i] == may) != (met == [2]bool{true, true}) {
				t.Errorf("Judge of %v: %v, but %v", c, judged, metClaims)
			}
			if _, e := season.Deny(c, i); (e == api.ErrNone) != (judged[i] == yes) {
				t.Errorf("Judge of %v: %v, but Deny of %d: %v", c, judged, i, e)
			}
		}
		for i, met := range metLies {
			if (said[i] == may) != (met == [2]bool{true, true}) {
				t.Errorf("Liars of %v: %v, but %v", c, said, metLies)
			}
		}
	})
}

func index(is bool) int {
	if is {
		return 1
	}
	return 0
}

// P9.8: the least number of liars, and more Liars.
func TestMoreLiars(t *testing.T) {
	opened := 0
	eachCase(t, func(t *testing.T, c season.Case, rnd *rand.Rand) {
		n := least(t, c)
		if n < 0 || n > len(c.Witnesses) {
			t.Errorf("Least of %v: %d", c, n)
		}
		var before []int
		for many := range api.MaxSeasonWitnesses + 1 {
			c.Liars = many
			if least(t, c) != n || hasTruth(t, c) != (n <= many) {
				t.Errorf("Least of %v: %d", c, n)
			}
			if many < n {
				continue
			}
			judged := judge(t, c)
			for i, v := range before {
				if judged[i] != v && judged[i] != may {
					t.Errorf("Judge of %v: %v, with fewer liars %v", c, judged, before)
				}
				if judged[i] != v {
					opened++
				}
			}
			before = judged
		}
	})
	atLeast(t, opened, 200, "claims that were opened by more liars")
}

// staying wants that what is upheld, or dismissed, in the first case is so in the
// second one, and returns how many claims are judged otherwise.
func staying(t *testing.T, a, b season.Case) int {
	t.Helper()
	changed := 0
	l, m := judge(t, a), judge(t, b)
	for i, v := range l {
		if v != may && m[i] != v {
			t.Errorf("Judge of %v: %v, of %v: %v", a, l, b, m)
		}
		if m[i] != v {
			changed++
		}
	}
	return changed
}

// P9.9: one more witness.
func TestOneMoreWitness(t *testing.T) {
	met := map[bool]int{}
	settled, more := 0, 0
	eachCase(t, func(t *testing.T, c season.Case, rnd *rand.Rand) {
		if len(c.Witnesses) == api.MaxSeasonWitnesses {
			return
		}
		x := with(c, someWords(rnd, c, bookTruths(c.Book)))
		m, n := least(t, c), least(t, x)
		more += n - m
		if n < m || n > m+1 {
			t.Errorf("Least of %v: %d, of %v: %d", c, m, x, n)
		}
		met[hasTruth(t, x)]++
		if hasTruth(t, x) {
			settled += staying(t, c, x)
		} else if hasTruth(t, c) && n == m {
			t.Errorf("no truth: %v, but of %v", x, c)
		}
	})
	atLeast(t, met[true], 200, "cases with one more witness")
	atLeast(t, met[false], 100, "cases that have no truth with one more witness")
	atLeast(t, settled, 50, "claims that one more witness settles")
	atLeast(t, more, 100, "witnesses who lie")
}

// P9.9: a witness who says nothing.
func TestSilentWitness(t *testing.T) {
	met := 0
	eachCase(t, func(t *testing.T, c season.Case, rnd *rand.Rand) {
		if len(c.Witnesses) == api.MaxSeasonWitnesses {
			return
		}
		x := with(c, nil)
		if least(t, c) != least(t, x) || hasTruth(t, c) != hasTruth(t, x) {
			t.Errorf("%v and %v", c, x)
		}
		if !hasTruth(t, x) {
			return
		}
		met++
		sameResults(t, c, x)
		if l, m := liars(t, c), liars(t, x); !slices.Equal(append(l, no), m) {
			t.Errorf("Liars of %v: %v, of %v: %v", c, l, x, m)
		}
	})
	atLeast(t, met, 250, "cases with a witness who says nothing")
}

// sameResults wants that what two cases say of their claims is the same.
func sameResults(t *testing.T, a, b season.Case) {
	t.Helper()
	if l, m := judge(t, a), judge(t, b); !slices.Equal(l, m) {
		t.Errorf("Judge of %v: %v, of %v: %v", a, l, b, m)
	}
	if l, m := together(t, a), together(t, b); !sameLists(l, m) {
		t.Errorf("Together of %v: %v, of %v: %v", a, l, b, m)
	}
	if l, m := leave(t, a), leave(t, b); !slices.Equal(l, m) {
		t.Errorf("Leave of %v: %v, of %v: %v", a, l, b, m)
	}
	for claim := range a.Claims {
		if l, m := decide(t, a, claim), decide(t, b, claim); !slices.Equal(l, m) {
			t.Errorf("Decide of %v: %v, of %v: %v", a, l, b, m)
		}
	}
}

// P9.10: one more word of a witness.
func TestOneMoreWord(t *testing.T) {
	met := map[bool]int{}
	settled := 0
	eachCase(t, func(t *testing.T, c season.Case, rnd *rand.Rand) {
		if len(c.Witnesses) == 0 {
			return
		}
		truths := bookTruths(c.Book)
		x, witness := copied(c), rnd.Intn(len(c.Witnesses))
		x.Witnesses[witness] = append(x.Witnesses[witness], someWord(rnd, c, truths))
		for _, truth := range truths {
			_, before := play(t, c, truth.lines)
			_, after := play(t, x, truth.lines)
			if before[witness] && !after[witness] {
				t.Errorf("Play of %v: %v, of %v: %v", c, before, x, after)
			}
		}
		met[hasTruth(t, x)]++
		if hasTruth(t, x) {
			settled += staying(t, c, x)
		}
	})
	atLeast(t, met[true], 200, "cases with one more word")
	atLeast(t, met[false], 50, "cases that have no truth with one more word")
	atLeast(t, settled, 20, "claims that one more word settles")
}

// P9.11: if all may lie, claims are judged as by the book.
func TestAsByTheBook(t *testing.T) {
	met := map[int]int{}
	eachCase(t, func(t *testing.T, c season.Case, rnd *rand.Rand) {
		c.Liars = len(c.Witnesses)
		turned := map[int]int{yes: no, no: yes, may: may}
		for i, v := range judge(t, c) {
			w := c.Claims[i]
			chairs, tokens, e := token.Out(c.Book, w.After)
			if e != api.OK {
				t.Fatalf("Out of %v: %v", c.Book, e)
			}
			want := chairs[w.Number]
			if w.Token {
				want = tokens[w.Number]
			}
			if !w.Out {
				want = turned[want]
			}
			met[v]++
			if v != want {
				t.Errorf("Judge of %v: %d of %d, not %d", c, v, i, want)
			}
		}
	})
	for _, v := range list(yes, no, may) {
		atLeast(t, met[v], 100, "claims of a kind")
	}
}

// P9.12: if nobody lies, what they say is upheld.
func TestNoLiars(t *testing.T) {
	met, settled := map[bool]int{}, 0
	eachCase(t, func(t *testing.T, c season.Case, rnd *rand.Rand) {
		c.Liars = 0
		met[hasTruth(t, c)]++
		if !hasTruth(t, c) {
			return
		}
		for _, said := range c.Witnesses {
			for _, w := range said {
				if l := judge(t, withClaims(c, w, opposite(w))); !slices.Equal(l, list(yes, no)) {
					t.Errorf("Judge of %v, %v: %v", c, w, l)
				}
				all := withClaims(c, w)
				all.Liars = len(c.Witnesses)
				if judge(t, all)[0] == may {
					settled++
				}
			}
		}
		if slices.Contains(liars(t, c), may) || slices.Contains(liars(t, c), yes) {
			t.Errorf("Liars of %v: %v", c, liars(t, c))
		}
	})
	atLeast(t, met[true], 150, "cases that have a truth")
	atLeast(t, met[false], 150, "cases that have none")
	atLeast(t, settled, 100, "words that witnesses settle")
}

// P9.13: claims that a witness decides.
func TestDecided(t *testing.T) {
	met := map[int]int{}
	eachTrue(t, func(t *testing.T, c season.Case, _ []told, rnd *rand.Rand) {
		judged, said := judge(t, c), liars(t, c)
		for claim := range c.Claims {
			deciding := decide(t, c, claim)
			if !slices.IsSorted(deciding) {
				t.Errorf("Decide of %v, %d: %v", c, claim, deciding)
			}
			for _, witness := range deciding {
				met[said[witness]]++
				if judged[claim] != may || said[witness] != may {
					t.Errorf("Decide of %v, %d: %v, but %v, %v", c, claim, deciding, judged, said)
				}
				var known []bool
				for _, l := range proved(c) {
					if claims, lies := play(t, c, l); !lies[witness] {
						known = append(known, claims[claim])
					}
				}
				if slices.Contains(known, true) == slices.Contains(known, false) {
					t.Errorf("Decide of %v, %d: %v, but %v", c, claim, deciding, known)
				}
			}
		}
	})
	atLeast(t, met[may], 100, "claims that a witness decides")
}

// canBe reports whether these claims can be true together, as no proof denies them in
// one of the truths.
func canBe(c season.Case, truths [][]token.Line, claims []int) bool {
	return slices.ContainsFunc(truths, func(l []token.Line) bool {
		return !slices.ContainsFunc(claims, func(i int) bool { return season.ProveDenial(c, i, l) })
	})
}

// P9.14: lists of claims that can be true together.
func TestTogether(t *testing.T) {
	met := 0
	eachTrue(t, func(t *testing.T, c season.Case, _ []told, rnd *rand.Rand) {
		lists, judged, truths := together(t, c), judge(t, c), proved(c)
		kept := others(len(c.Claims), leave(t, c))
		if len(lists) == 0 || !slices.ContainsFunc(lists, func(l []int) bool { return isPart(kept, l) }) {
			t.Errorf("Together of %v: %v, but %v are kept", c, lists, kept)
		}
		if !slices.IsSortedFunc(lists, slices.Compare[[]int]) {
			t.Errorf("Together of %v: %v", c, lists)
		}
		for i, l := range lists {
			met += len(l)
			if !canBe(c, truths, l) || !slices.IsSorted(l) {
				t.Errorf("Together of %v: %v", c, lists)
			}
			for k, other := range lists {
				if i != k && isPart(l, other) {
					t.Errorf("Together of %v: %v", c, lists)
				}
			}
		}
		for i, v := range judged {
			isThere := slices.ContainsFunc(lists, func(l []int) bool { return slices.Contains(l, i) })
			if isThere != (v != no) {
				t.Errorf("Together of %v: %v, but %v", c, lists, judged)
			}
		}
	})
	atLeast(t, met, 700, "claims of lists")
}

// P9.15, P5 and P6: no set before the smallest one can be left out.
func TestSmallestSet(t *testing.T) {
	met := 0
	eachTrue(t, func(t *testing.T, c season.Case, _ []told, rnd *rand.Rand) {
		l, truths := leave(t, c), proved(c)
		if !canBe(c, truths, others(len(c.Claims), l)) {
			t.Errorf("Leave of %v: %v, but the others cannot be true", c, l)
		}
		for _, other := range subsets(len(c.Claims)) {
			if slices.Equal(other, l) {
				break
			}
			met++
			if canBe(c, truths, others(len(c.Claims), other)) {
				t.Errorf("Leave of %v: %v, but %v can be left out", c, l, other)
			}
		}
	})
	atLeast(t, met, 600, "sets before the smallest one")
}

// P9.16: a claim is turned round.
func TestOpposite(t *testing.T) {
	met := map[int]int{}
	eachTrue(t, func(t *testing.T, c season.Case, _ []told, rnd *rand.Rand) {
		for i := range c.Claims {
			x := copied(c)
			x.Claims[i] = opposite(x.Claims[i])
			want := judge(t, c)
			met[want[i]]++
			want[i] = map[int]int{yes: no, no: yes, may: may}[want[i]]
			if l := judge(t, x); !slices.Equal(l, want) {
				t.Errorf("Judge of %v: %v, not %v", x, l, want)
			}
			if l, m := decide(t, c, i), decide(t, x, i); !slices.Equal(l, m) {
				t.Errorf("Decide of %v, %d: %v, of %v: %v", c, i, l, x, m)
			}
		}
	})
	for _, v := range list(yes, no, may) {
		atLeast(t, met[v], 100, "claims of a kind")
	}
}

// P7: witnesses, their words and the counts of the book in any order, and claims.
func TestAnyOrder(t *testing.T) {
	eachTrue(t, func(t *testing.T, c season.Case, _ []told, rnd *rand.Rand) {
		x, at, of := copied(c), rnd.Perm(len(c.Witnesses)), rnd.Perm(len(c.Claims))
		slices.Reverse(x.Book.Counts)
		for i, k := range at {
			x.Witnesses[i] = slices.Clone(c.Witnesses[k])
			slices.Reverse(x.Witnesses[i])
		}
		for i, k := range of {
			x.Claims[i] = c.Claims[k]
		}
		if m, n := least(t, c), least(t, x); m != n {
			t.Errorf("Least of %v: %d, of %v: %d", c, m, x, n)
		}
		if l, m := leave(t, c), leave(t, x); len(l) != len(m) {
			t.Errorf("Leave of %v: %v, of %v: %v", c, l, x, m)
		}
		judged, said, judgedThen, saidThen := judge(t, c), liars(t, c), judge(t, x), liars(t, x)
		for i, k := range of {
			if judged[k] != judgedThen[i] || len(decide(t, c, k)) != len(decide(t, x, i)) {
				t.Errorf("Judge of %v: %v, of %v: %v", c, judged, x, judgedThen)
			}
		}
		for i, k := range at {
			if said[k] != saidThen[i] {
				t.Errorf("Liars of %v: %v, of %v: %v", c, said, x, saidThen)
			}
		}
		if l, m := together(t, c), together(t, x); !sameLists(l, numbered(m, of)) {
			t.Errorf("Together of %v: %v, of %v: %v", c, l, x, m)
		}
	})
}

// numbered returns the lists with other numbers, all in increasing order.
func numbered(lists [][]int, number []int) [][]int {
	var out [][]int
	for _, l := range lists {
		var other []int
		for _, n := range l {
			other = append(other, number[n])
		}
		slices.Sort(other)
		out = append(out, other)
	}
	slices.SortFunc(out, slices.Compare[[]int])
	return out
}

// R3: nil and a list without elements.
func TestNilIsEmpty(t *testing.T) {
	empty := season.Case{
		Book:      token.Book{Chairs: 1, Coin: 1, Lines: []token.Line{}, Counts: []token.Count{}},
		Witnesses: [][]season.Word{},
		Claims:    []season.Word{},
	}
	silent := season.Case{Book: empty.Book, Witnesses: [][]season.Word{nil, {}}}
	for _, c := range []season.Case{empty, silent, {Book: token.Book{Chairs: 1, Coin: 1}}} {
		for _, l := range [][]token.Line{nil, {}} {
			if claims, lies := play(t, c, l); len(claims) > 0 || slices.Contains(lies, true) || !season.ProveTruth(c, l) {
				t.Errorf("Play of %v: %v, %v", c, claims, lies)
			}
		}
		if l, m := judge(t, c), liars(t, c); len(l) > 0 || slices.Contains(m, yes) || slices.Contains(m, may) {
			t.Errorf("Judge, Liars of %v: %v, %v", c, l, m)
		}
		if l, m := together(t, c), leave(t, c); !sameLists(l, [][]int{{}}) || len(m) > 0 || least(t, c) != 0 {
			t.Errorf("Together, Leave of %v: %v, %v", c, l, m)
		}
		if l, e := season.Deny(withClaims(c, out(0, 0)), 0); len(l) > 0 || e != api.OK {
			t.Errorf("Deny of %v: %v, %v", c, l, e)
		}
	}
}

func sameCase(a, b season.Case) bool {
	return a.Book.Chairs == b.Book.Chairs && a.Book.Coin == b.Book.Coin && a.Book.Box == b.Book.Box && slices.Equal(a.Book.Lines, b.Book.Lines) && slices.Equal(a.Book.Counts, b.Book.Counts) &&
		slices.EqualFunc(a.Witnesses, b.Witnesses, slices.Equal[[]season.Word]) && a.Liars == b.Liars && slices.Equal(a.Claims, b.Claims)
}

// R4: arguments are not written to, also not behind their ends.
func TestArgumentsAreKept(t *testing.T) {
	whole := example(1)
	whole.Book.Lines = append(whole.Book.Lines, hire(7, 7))
	whole.Book.Counts = []token.Count{counted(2, 20, 99), counted(7, 7, 7)}
	whole.Witnesses = append(whole.Witnesses, words(out(7, 7)))
	whole.Witnesses[1] = words(signOut(3, 2), in(0, 0), out(7, 7))
	whole.Claims = append(whole.Claims, out(7, 7))
	truth := append(read(2, 0), hire(7, 7))
	kept, keptTruth := copied(whole), slices.Clone(truth)
	for many := range 5 {
		c := whole
		c.Book.Lines, c.Book.Counts = c.Book.Lines[:3], c.Book.Counts[:1]
		c.Witnesses = slices.Clone(c.Witnesses[:3])
		c.Witnesses[1] = c.Witnesses[1][:2]
		c.Claims = c.Claims[:many]
		for claim := range 4 {
			callAll(c, asked{claim, truth[:3]})
		}
		expect(t, playing, c, asked{truth: truth[:3]}, api.OK)
		expect(t, leaving, c, asked{}, api.OK)
		c = whole
		c.Book.Lines, c.Book.Counts, c.Claims, c.Witnesses = c.Book.Lines[:3], nil, c.Claims[:many], c.Witnesses[:1]
		callAll(c, asked{1, truth[:3]})
		expect(t, leaving, c, asked{}, api.OK)
	}
	if !sameCase(whole, kept) || !slices.Equal(truth, keptTruth) {
		t.Errorf("%v, %v became %v, %v", kept, keptTruth, whole, truth)
	}
}

// R4: results are in memory of their own, also behind their ends.
func TestResultsAreApart(t *testing.T) {
	c, truth := example(1), read(2, 0)
	kept := copied(c)
	for range 2 {
		claims, lies := play(t, c, truth)
		other := append(claims, true, true, true, true)
		if !slices.Equal(lies, []bool{true, false, false}) || !slices.Equal(other[:4], []bool{false, false, true, true}) {
			t.Errorf("results share memory: %v, %v", lies, other)
		}
		clear(claims)
		clear(lies)
		lists := together(t, c)
		for i, l := range lists {
			lists[i] = append(l, 77, 77, 77)
		}
		if !sameLists(lists, [][]int{{0, 2, 77, 77, 77}, {2, 3, 77, 77, 77}}) {
			t.Errorf("lists share memory: %v", lists)
		}
		denial, e := season.Deny(c, 0)
		if e != api.OK || !slices.Equal(denial, read(2, 0)) {
			t.Errorf("Deny: %v, %v", denial, e)
		}
		clear(denial)
		judged, said, deciding, left := judge(t, c), liars(t, c), decide(t, c, 0), leave(t, c)
		if !slices.Equal(judged, list(may, no, yes, may)) || !slices.Equal(said, list(may, no, may)) || !slices.Equal(deciding, list(0, 2)) || !slices.Equal(left, list(0, 1)) {
			t.Errorf("results: %v, %v, %v, %v", judged, said, deciding, left)
		}
		for _, l := range append(lists, judged, said, deciding, left) {
			clear(l)
		}
	}
	if !sameCase(c, kept) || !slices.Equal(truth, read(2, 0)) {
		t.Errorf("a result shares memory with an argument: %v, %v", c, truth)
	}
}

// A call with equal arguments returns equal results.
func TestAgain(t *testing.T) {
	eachTrue(t, func(t *testing.T, c season.Case, _ []told, rnd *rand.Rand) {
		x := copied(c)
		sameResults(t, c, x)
		for claim := range c.Claims {
			l, e := season.Deny(c, claim)
			if m, f := season.Deny(x, claim); !slices.Equal(l, m) || e != f {
				t.Errorf("Deny of %v, %d: %v, %v and %v, %v", c, claim, l, e, m, f)
			}
		}
	})
}

// widest returns a case whose book has many readings and truths, with as many
// witnesses, words and claims as there can be.
func widest() season.Case {
	free := hire(-1, -1)
	b := token.Book{Chairs: 4, Coin: 1, Lines: lines(hire(3, 3), back(3, 3), hire(2, 1), back(2, 1), free, free, free)}
	c := season.Case{Book: b, Liars: 2, Claims: words(out(6, 0), out(7, 1), signOut(5, 1), signIn(7, 2))}
	for n := range api.MaxSeasonWitnesses {
		c.Witnesses = append(c.Witnesses, words(out(7, n), signIn(5, n), in(5, (n+1)%4), signOut(7, 3-n)))
	}
	return c
}

// P5: a case with many truths.
func TestWidest(t *testing.T) {
	c := widest()
	truths := truthsOf(c)
	if n := len(allReadings(c.Book)); n != api.MaxTokenTruths || len(truths) < 20 {
		t.Fatalf("%d readings, %d truths", n, len(truths))
	}
	if l, want := judge(t, c), judgedOf(c, truths); !slices.Equal(l, want) {
		t.Errorf("Judge: %v, not %v", l, want)
	}
	if l, want := liars(t, c), liarsOf(c, truths); !slices.Equal(l, want) {
		t.Errorf("Liars: %v, not %v", l, want)
	}
	if l, want := together(t, c), togetherOf(c, truths); !sameLists(l, want) {
		t.Errorf("Together: %v, not %v", l, want)
	}
	if l, want := leave(t, c), leaveOf(c, truths); !slices.Equal(l, want) {
		t.Errorf("Leave: %v, not %v", l, want)
	}
	if n, want := least(t, c), leastOf(c); n != want {
		t.Errorf("Least: %d, not %d", n, want)
	}
}
