package season

import (
	"iter"
	"slices"

	"foreshore/api"
	"foreshore/token"
)

// claimed has which claims are true, and none that the case does not have.
type claimed [api.MaxSeasonClaims]bool

// lying has which witnesses lie, and none that the case does not have.
type lying [api.MaxSeasonWitnesses]bool

// outcome is what a truth of the book makes of a case.
type outcome struct {
	claims claimed
	liars  lying
}

// scene is a truth of the book with its outcome.
type scene struct {
	outcome
	truth []token.Line
}

// outs has which words that say Out are true; one that is not there is not.
type outs map[Word]bool

// work is a case at work, with the scenes that are asked about.
type work struct {
	Case
	scenes []scene
}

// question is what is asked of a scene, about a claim or a witness.
type question struct {
	ask   func(s scene, about int) bool
	about int
}

// begin takes the truths of the book, however many witnesses lie in them.
func begin(c Case) work {
	w := work{Case: c}
	w.scenes = w.differentScenes()
	return w
}

// start checks a case, and that it has a truth, and takes its truths. Whether what
// is asked about is there is told by the caller, because this error comes in
// between.
func start(c Case, isThere bool) (work, api.Errno) {
	if e := CheckCase(c); e != api.OK {
		return work{}, e
	}
	if !isThere {
		return work{}, api.ErrRange
	}
	w := begin(c)
	w.scenes = slices.DeleteFunc(w.scenes, func(s scene) bool { return !c.allows(s) })
	if len(w.scenes) == 0 {
		return work{}, api.ErrFalse
	}
	return w, api.OK
}

// isShort reports whether no list of the case, outside the book, is too long.
func (c Case) isShort() bool {
	isShort := func(words []Word) bool { return len(words) <= api.MaxSeasonWords }
	return len(c.Witnesses) <= api.MaxSeasonWitnesses && len(c.Claims) <= api.MaxSeasonClaims && all(c.Witnesses, isShort)
}

// isValid reports whether what is not in the book is valid.
func (c Case) isValid() bool {
	return upTo(c.Liars, api.MaxSeasonWitnesses) && all(c.Claims, c.validWord) && all(slices.Concat(c.Witnesses...), c.validWord)
}

func (c Case) validWord(x Word) bool {
	return upTo(x.After, len(c.Book.Lines)) && upTo(x.Number, c.Book.Chairs-1)
}

func (c Case) hasClaim(claim int) bool { return upTo(claim, len(c.Claims)-1) }

// truths yields the truths of the book.
func (w work) truths() iter.Seq[[]token.Line] {
	return func(yield func([]token.Line) bool) {
		readings := w.readings()
		chosen := make([]token.Line, len(readings))
		var choose func(line int) bool
		choose = func(line int) bool {
			if line == len(chosen) {
				// A copy, because the next truth is made in the same memory.
				return !token.ProveTruth(w.Book, chosen) || yield(slices.Clone(chosen))
			}
			for _, l := range readings[line] {
				chosen[line] = l
				if !choose(line + 1) {
					return false
				}
			}
			return true
		}
		choose(0)
	}
}

// readings returns what each line of the book can have been.
func (w work) readings() [][]token.Line {
	var list [][]token.Line
	for line := range w.Book.Lines {
		// There is no error, as the book has a truth and the line.
		was, _ := token.Was(w.Book, line)
		list = append(list, was)
	}
	return list
}

// differentScenes returns the scenes of the truths of the book, and of those with
// the same outcome only the first one: nothing else of them matters.
func (w work) differentScenes() []scene {
	var scenes []scene
	met := map[outcome]bool{}
	for truth := range w.truths() {
		s := w.scene(truth)
		if !met[s.outcome] {
			met[s.outcome] = true
			scenes = append(scenes, s)
		}
	}
	return scenes
}

// scene returns the scene of a truth of the book.
func (c Case) scene(truth []token.Line) scene {
	s, known := scene{truth: truth}, outsOf(truth)
	for i, x := range c.Claims {
		s.claims[i] = known.agree(x)
	}
	for i, words := range c.Witnesses {
		s.liars[i] = !all(words, known.agree)
	}
	return s
}

// outsOf returns what is out after each number of lines. A chair, or a token, stays
// where a line brings it, so a later line about it is written over an earlier one.
func outsOf(truth []token.Line) outs {
	known := outs{}
	for i, l := range truth {
		for after := i + 1; after <= len(truth); after++ {
			known[Word{after, false, l.Chair, true}] = l.Kind == token.Hire
			known[Word{after, true, l.Token, true}] = l.Kind == token.Hire
		}
	}
	return known
}

// agree reports whether the word is true.
func (o outs) agree(x Word) bool { return o[Word{x.After, x.Token, x.Number, true}] == x.Out }

// allows reports whether the truth of the book is one of the case.
func (c Case) allows(s scene) bool { return s.countLiars() <= c.Liars }

func (s scene) countLiars() int {
	many := 0
	for _, lies := range s.liars {
		if lies {
			many++
		}
	}
	return many
}

func (s scene) isTrue(claim int) bool { return s.claims[claim] }

func (s scene) lies(witness int) bool { return s.liars[witness] }

func (q question) isSo(s scene) bool { return q.ask(s, q.about) }

// verdict returns whether what is asked is so in all of the scenes, of which there
// is at least one.
func verdict(scenes []scene, q question) int {
	switch {
	case all(scenes, q.isSo):
		return Always
	case slices.ContainsFunc(scenes, q.isSo):
		return Perhaps
	}
	return Never
}

// verdicts returns the verdicts about so many claims, or witnesses.
func (w work) verdicts(ask func(s scene, about int) bool, many int) []int {
	var list []int
	for about := range many {
		list = append(list, verdict(w.scenes, question{ask, about}))
	}
	return list
}

// least returns the least number of liars.
func (w work) least() int {
	var liars []int
	for _, s := range w.scenes {
		liars = append(liars, s.countLiars())
	}
	return minimum(liars[0], liars...)
}

// decides reports whether the witness decides the claim.
func (w work) decides(witness, claim int) bool {
	asked := question{scene.isTrue, claim}
	honest := slices.DeleteFunc(slices.Clone(w.scenes), question{scene.lies, witness}.isSo)
	return verdict(w.scenes, asked) == Perhaps && len(honest) > 0 && verdict(honest, asked) != Perhaps
}

// together returns the lists of all claims that are true in a scene, but for those
// that are a part of another one.
func (w work) together() [][]int {
	var lists [][]int
	for _, s := range w.scenes {
		hasMore := func(other scene) bool { return other.claims != s.claims && other.claims.contain(s.claims) }
		if !slices.ContainsFunc(w.scenes, hasMore) {
			lists = append(lists, w.claimsThat(s, true))
		}
	}
	slices.SortFunc(lists, slices.Compare[[]int])
	return slices.CompactFunc(lists, slices.Equal[[]int])
}

// contain reports whether all claims are true that the others have as true.
func (c claimed) contain(others claimed) bool {
	for i, is := range others {
		if is && !c[i] {
			return false
		}
	}
	return true
}

// claimsThat returns the claims that are true in the scene, or those that are not.
func (w work) claimsThat(s scene, are bool) []int {
	list := []int{}
	for claim := range len(w.Claims) {
		if s.isTrue(claim) == are {
			list = append(list, claim)
		}
	}
	return list
}

// smallestSet returns the smallest set of claims to leave out. Only the claims that
// are not true in some scene are tried, because each set that can be left out has all
// of these, for one scene at least.
func (w work) smallestSet() (smallest []int) {
	var sets [][]int
	for _, s := range w.scenes {
		sets = append(sets, w.claimsThat(s, false))
	}
	slices.SortFunc(sets, slices.Compare[[]int])
search:
	for many := range len(w.Claims) + 1 {
		for _, set := range sets {
			if len(set) == many {
				smallest = set
				break search
			}
		}
	}
	return smallest
}

func upTo(n, most int) bool { return 0 <= n && n <= most }

func all[T any](list []T, holds func(T) bool) bool {
	for _, x := range list {
		if !holds(x) {
			return false
		}
	}
	return true
}

func minimum(first int, more ...int) int {
	for _, n := range more {
		first = min(first, n)
	}
	return first
}
