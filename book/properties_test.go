package book_test

import (
	"bytes"
	"math/rand"
	"slices"
	"strconv"
	"strings"
	"testing"

	"foreshore/api"
	"foreshore/book"
	"foreshore/count"
	"foreshore/mend"
	"foreshore/tide"
	"foreshore/token"
)

// line returns a line of a word and numbers.
func line(word string, numbers ...int) string {
	for _, n := range numbers {
		word += " " + strconv.Itoa(n)
	}
	return word
}

// P12.6 and P8: the accepted lines alone are all accepted, and make the same state; so do
// the same lines.
func TestReplayed(t *testing.T) {
	met := 0
	eachPast(t, api.MaxBookSession, func(t *testing.T, p past, rnd *rand.Rand) {
		s, errors := play(t, p.lines)
		x, again := play(t, slices.Clone(p.lines))
		if !same(s, x) || !slices.Equal(errors, again) {
			t.Errorf("Play of %q: %v, %v, and then %v, %v", p.lines, s, errors, x, again)
		}
		var accepted []string
		for i, e := range errors {
			if e == api.OK {
				accepted = append(accepted, p.lines[i])
			}
		}
		y, errors := play(t, accepted)
		if !same(s, y) || slices.ContainsFunc(errors, func(e api.Errno) bool { return e != api.OK }) {
			t.Errorf("Play of %q: %v, of %q alone: %v, %v", p.lines, s, accepted, y, errors)
		}
		if len(accepted) < len(p.lines) {
			met++
		}
	})
	atLeast(t, met, 500, "sessions with refused lines")
}

// P12.7: after any lines the state stands, by the packages themselves.
func TestItStands(t *testing.T) {
	eachPast(t, api.MaxBookSession, func(t *testing.T, p past, rnd *rand.Rand) {
		for many := len(p.lines); many >= 0; many -= 1 + rnd.Intn(9) {
			s, _ := play(t, p.lines[:many])
			least, e := count.Least(s.Row)
			if e != api.OK || least > s.Row.Wrong {
				t.Errorf("the Row after %q: %v: %d, %v", p.lines[:many], s.Row, least, e)
			}
			marks, e := tide.Leave(s.Table)
			if e != api.OK || len(marks) > 0 {
				t.Errorf("the Table after %q: %v: %v, %v", p.lines[:many], s.Table, marks, e)
			}
			if e := token.CheckBook(s.Book); e != api.OK {
				t.Errorf("the Book after %q: %v: %v", p.lines[:many], s.Book, e)
			}
			claims, e := mend.Leave(s.Yard)
			if e != api.OK || len(claims) > 0 {
				t.Errorf("the Yard after %q: %v: %v, %v", p.lines[:many], s.Yard, claims, e)
			}
		}
	})
}

// P12.8: each line changes its own part of the state alone.
func TestWhatDepends(t *testing.T) {
	met := map[int]int{}
	eachPast(t, 16, func(t *testing.T, p past, rnd *rand.Rand) {
		before, _ := play(t, nil)
		for i, line := range p.lines {
			s, errors := play(t, p.lines[:i+1])
			changed := differ(before, s)
			if len(changed) == 0 {
				continue
			}
			part := kinds()[strings.Fields(line)[0]].part
			if errors[i] != api.OK || !slices.Equal(changed, []int{part}) {
				t.Errorf("%q after %q: %v, from %v to %v", line, p.lines[:i], errors[i], before, s)
			}
			met[part]++
			before = s
		}
	})
	for part := range allParts {
		atLeast(t, met[part], 500, "changes of the part "+strconv.Itoa(part))
	}
}

// P12.9: a count, mark, hire, return or claim that is accepted and removed leaves the
// state as it was.
func TestUndone(t *testing.T) {
	met := map[string]int{}
	eachPast(t, api.MaxBookSession-2, func(t *testing.T, p past, rnd *rand.Rand) {
		s, _ := play(t, p.lines)
		for _, x := range []struct {
			word, undo string
			at         int
		}{
			{"count", "uncount", len(s.Row.Counts)}, {"back", "uncount", len(s.Row.Counts)}, {"mark", "unmark", len(s.Table.Marks)},
			{"hire", "strike", len(s.Book.Lines)}, {"bring", "strike", len(s.Book.Lines)}, {"claim", "unclaim", len(s.Yard.Claims)},
		} {
			added := line(x.word, someNumbers(rnd, s, x.word)...)
			lines := append(slices.Clone(p.lines), added, line(x.undo, x.at))
			after, errors := play(t, lines)
			accepted := errors[len(p.lines)] == api.OK
			if removed := errors[len(p.lines)+1] == api.OK; !same(s, after) || accepted != removed {
				t.Errorf("%q: %v, from %v to %v", lines, errors, s, after)
			}
			if accepted {
				met[x.word]++
			}
		}
	})
	for _, word := range list("count", "back", "mark", "hire", "bring", "claim") {
		atLeast(t, met[word], 200, word+" that is accepted")
	}
}

// asWritten returns lines that write again what is written in the state.
func asWritten(s book.State) []string {
	out := list(line("wrong", s.Row.Wrong), line("off", s.Row.Off), line("step", s.Table.Step), line("fit", s.Yard.Fit))
	for i, p := range s.Row.Places {
		out = append(out, line("seen", i, p))
	}
	for i, h := range s.Table.Heights {
		out = append(out, line("tide", i, h.Lo, h.Hi))
	}
	for i, l := range s.Table.Levels {
		out = append(out, line("raise", i, l))
	}
	for i, c := range s.Yard.Chairs {
		for k, p := range c.Parts {
			out = append(out, line("part", i, k, p))
		}
	}
	return out
}

// P12.10: what is written again as it was does not change the state.
func TestCorrected(t *testing.T) {
	eachPast(t, api.MaxBookSession, func(t *testing.T, p past, rnd *rand.Rand) {
		s := p.end()
		again := asWritten(s)
		rnd.Shuffle(len(again), func(i, j int) { again[i], again[j] = again[j], again[i] })
		lines := slices.Concat(p.accepted(), again)
		for len(lines) > api.MaxBookSession {
			lines = lines[:len(lines)-1]
		}
		x, errors := play(t, lines)
		if !same(s, x) || slices.ContainsFunc(errors, func(e api.Errno) bool { return e != api.OK }) {
			t.Errorf("%q: %v, from %v to %v", lines, errors, s, x)
		}
	})
}

// widened returns a line that makes something of the state less known, and whether there
// is one.
func widened(rnd *rand.Rand, s book.State) (string, bool) {
	switch rnd.Intn(3) {
	case 0:
		p := rnd.Intn(len(s.Row.Places))
		return line("seen", p, 2), s.Row.Places[p] != 2
	case 1:
		h := rnd.Intn(4)
		r := s.Table.Heights[h]
		lo, hi := max(r.Lo-rnd.Intn(2), 0), min(r.Hi+rnd.Intn(2), 99)
		return line("tide", h, lo, hi), lo < r.Lo || hi > r.Hi
	}
	if len(s.Yard.Chairs) == 0 {
		return "", false
	}
	c, k := rnd.Intn(len(s.Yard.Chairs)), rnd.Intn(3)
	return line("part", c, k, 2), s.Yard.Chairs[c].Parts[k] != 2
}

// bounds are of numbers of chairs of all parts of the Row, of first wet hours, and of whole
// chairs.
func bounds(s book.State) [][2]int {
	var out [][2]int
	for from := range s.Row.Places {
		for to := from; to < len(s.Row.Places); to++ {
			r, _ := count.Chairs(s.Row, from, to)
			out = append(out, [2]int{r.Lo, r.Hi})
		}
	}
	for row := range s.Table.Levels {
		r, _ := tide.Reach(s.Table, row)
		out = append(out, [2]int{r.Lo, r.Hi})
	}
	r, _ := mend.Bounds(s.Yard)
	return append(out, [2]int{r.Lo, r.Hi})
}

// P12.11: with less that is known, no bounds are narrower.
func TestWider(t *testing.T) {
	met := map[int]int{}
	eachPast(t, api.MaxBookSession-1, func(t *testing.T, p past, rnd *rand.Rand) {
		for range 4 {
			wide, ok := widened(rnd, p.end())
			if !ok {
				continue
			}
			s, _ := play(t, p.lines)
			x, errors := play(t, append(slices.Clone(p.lines), wide))
			if errors[len(p.lines)] != api.OK {
				continue
			}
			narrow, wider := bounds(s), bounds(x)
			for i, r := range narrow {
				if wider[i][0] > r[0] || wider[i][1] < r[1] {
					t.Errorf("%q after %q: from %v to %v", wide, p.lines, narrow, wider)
				}
			}
			if !slices.Equal(narrow, wider) {
				met[kinds()[strings.Fields(wide)[0]].part]++
			}
		}
	})
	atLeast(t, met[ofRow], 50, "places that become unknown")
	atLeast(t, met[ofTable], 50, "Heights that become wider")
	atLeast(t, met[ofYard], 50, "parts that become unknown")
}

// someLines returns lines of any bytes, among them parts of records.
func someLines(rnd *rand.Rand) []string {
	var out []string
	for range rnd.Intn(api.MaxBookSession + 1) {
		switch rnd.Intn(4) {
		case 0:
			b := make([]byte, rnd.Intn(api.MaxBookLine+1))
			rnd.Read(b)
			out = append(out, string(b))
		case 1:
			r := recordOf(strings.Repeat("a", rnd.Intn(30)), rnd.Intn(3))
			out = append(out, r[rnd.Intn(3):])
		case 2:
			out = append(out, strings.Repeat(";\n0"[:1+rnd.Intn(3)], rnd.Intn(16)))
		default:
			out = append(out, someLine(rnd, atFirst(), rnd.Intn(allParts)))
		}
	}
	return out
}

// P12.12: a file can be read; of its first bytes, the records that are whole in them.
func TestTheFile(t *testing.T) {
	eachPast(t, 0, func(t *testing.T, p past, rnd *rand.Rand) {
		lines := someLines(rnd)
		file := write(t, lines)
		if string(file) != fileOf(lines) {
			t.Errorf("Write of %q: %q", lines, file)
		}
		if l, n := book.Recover(file); !slices.Equal(l, lines) || n != len(file) {
			t.Errorf("Recover of the file of %q: %q, %d", lines, l, n)
		}
		for range 20 {
			cut := rnd.Intn(len(file) + 1)
			whole, size := 0, 0
			for whole < len(lines) && size+len(recordOf(lines[whole], whole)) <= cut {
				size += len(recordOf(lines[whole], whole))
				whole++
			}
			if l, n := book.Recover(file[:cut]); !slices.Equal(l, lines[:whole]) || n != size {
				t.Errorf("Recover of %d bytes of the file of %q: %q, %d", cut, lines, l, n)
			}
		}
	})
}

// P12.12: no record is read at another place than its own, whatever its line is.
func TestOtherPlaces(t *testing.T) {
	rnd := rand.New(rand.NewSource(1))
	for range 20 {
		l := append(someLines(rnd), "off 1")[0]
		same := slices.Repeat(list(l), api.MaxBookSession)
		for at := range same {
			for from := range same {
				b := fileOf(same[:at]) + recordOf(l, from)
				lines, n := book.Recover([]byte(b))
				want := at
				if from == at {
					want++
				}
				if len(lines) != want || n != len(fileOf(same[:want])) {
					t.Errorf("the record %d of %q as %d: %d lines, %d bytes", from, l, at, len(lines), n)
				}
			}
		}
	}
	b := fileOf(list("place", "place", "off 1"))
	for _, x := range []struct {
		b    string
		want []string
	}{
		{b[14:], nil}, {b[28:], nil}, {b[:14] + b[28:], list("place")}, {b + b, list("place", "place", "off 1")}, {b[:14] + b, list("place")}, {b[:28] + b[14:], list("place", "place")},
	} {
		if lines, _ := book.Recover([]byte(x.b)); !slices.Equal(lines, x.want) {
			t.Errorf("Recover of %q: %q", x.b, lines)
		}
	}
}

// A byte of a line, or of its check, that is another one is noticed.
func TestOtherBytes(t *testing.T) {
	file := fileOf(example())
	at := 0
	for i, l := range example() {
		r := recordOf(l, i)
		for k := 2; k < len(r); k++ {
			for bit := range 8 {
				b := []byte(file)
				b[at+k] ^= 1 << bit
				if lines, n := book.Recover(b); !slices.Equal(lines, example()[:i]) || n != at {
					t.Errorf("Recover of %q: %q, %d", b, lines, n)
				}
			}
		}
		at += len(r)
	}
}

// P12.13 and P8: Resume of no bytes makes the file of the accepted lines, and goes on with
// it wherever it is cut off.
func TestGoesOn(t *testing.T) {
	met := 0
	eachPast(t, api.MaxBookSession, func(t *testing.T, p past, rnd *rand.Rand) {
		accepted := p.accepted()
		file := resume(t, nil, p.lines)
		if string(file) != fileOf(accepted) {
			t.Errorf("Resume of no bytes, with %q: %q", p.lines, file)
		}
		for range 4 {
			cut := rnd.Intn(len(file) + 1)
			lines, n := book.Recover(file[:cut])
			rest := accepted[len(lines):]
			if b := resume(t, file[:cut], rest); !bytes.Equal(b, file) {
				t.Errorf("Resume of %q, with %q: %q", file[:cut], rest, b)
			}
			if n < cut {
				met++
			}
		}
	})
	atLeast(t, met, 500, "files that are cut off within a record")
}

// R3: nil and a list without elements.
func TestNilIsEmpty(t *testing.T) {
	for _, none := range [][]string{nil, {}} {
		if s, errors := play(t, none); !same(s, atFirst()) || len(errors) != 0 {
			t.Errorf("Play of nothing: %v, %v", s, errors)
		}
		if b := write(t, none); len(b) != 0 {
			t.Errorf("Write of nothing: %q", b)
		}
		for _, b := range [][]byte{nil, {}} {
			if l, n := book.Recover(b); len(l) != 0 || n != 0 {
				t.Errorf("Recover of nothing: %q, %d", l, n)
			}
			if w := resume(t, b, none); len(w) != 0 {
				t.Errorf("Resume of nothing: %q", w)
			}
		}
	}
}

// R4: arguments are not written to, also not behind their ends.
func TestArgumentsAreKept(t *testing.T) {
	lines := append(example(), "behind", "the end")
	file := append([]byte(fileOf(example())), "behind the end"...)
	keptLines, keptFile := slices.Clone(lines), slices.Clone(file)
	for many := range len(example()) + 1 {
		for _, c := range calls()[:8] {
			c.do(lines[:many])
		}
		size := len(fileOf(example()[:many]))
		book.Recover(file[:size])
		resume(t, file[:size], lines[many:])
		resume(t, file[:size], lines[:many])
		callAll(file[:size], lines[:many])
	}
	if !slices.Equal(lines, keptLines) || !bytes.Equal(file, keptFile) {
		t.Errorf("%q, %q became %q, %q", keptLines, keptFile, lines, file)
	}
}

// R4: results are in memory of their own.
func TestResultsAreApart(t *testing.T) {
	file := []byte(fileOf(example()))
	want := passed(example()...).end()
	for range 2 {
		s, errors := play(t, example())
		lines, _ := book.Recover(file)
		written, resumed := write(t, example()), resume(t, file[:len(file)-1], list("claim 0 2"))
		if !same(s, want) || len(errors) != 15 || errors[0] != api.OK || !slices.Equal(lines, example()) || string(written) != fileOf(example()) || string(resumed) != fileOf(example()) {
			t.Errorf("results: %v, %v, %q, %q, %q", s, errors, lines, written, resumed)
		}
		scribble(s.Row.Places, 77)
		scribble(s.Row.Counts, count.Count{Many: 77})
		scribble(s.Table.Heights, tide.Range{Lo: 77})
		scribble(s.Table.Levels, 78)
		scribble(s.Table.Marks, tide.Mark{From: 77})
		scribble(s.Book.Lines, token.Line{Kind: 77})
		scribble(s.Yard.Chairs, mend.Chair{Size: 77})
		scribble(s.Yard.Claims, mend.Range{Lo: 77})
		scribble(errors, 77)
		scribble(written, 'w')
		scribble(resumed, 'r')
		if slices.Contains(s.Row.Places, 78) || !slices.Equal(lines, example()) || string(file) != fileOf(example()) {
			t.Errorf("results share memory: %v, %q, %q", s, lines, file)
		}
		scribble(lines, "scribbled")
	}
	lines, _ := book.Recover(file)
	scribble(file, 'x')
	if !slices.Equal(lines, example()) {
		t.Errorf("lines share memory with the bytes: %q", lines)
	}
}

// scribble writes over a list, also behind its end.
func scribble[T any](list []T, x T) {
	list = list[:cap(list)]
	for i := range list {
		list[i] = x
	}
}
