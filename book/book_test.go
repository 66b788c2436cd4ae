package book_test

import (
	"math/rand"
	"slices"
	"strings"
	"testing"

	"foreshore/api"
	"foreshore/book"
	"foreshore/count"
	"foreshore/mend"
	"foreshore/tide"
	"foreshore/token"
)

// list returns the lines.
func list(lines ...string) []string { return lines }

// example returns the lines of the chapter's examples, and further ones.
func example(more ...string) []string {
	return append(list("place", "seen 2 1", "count 3 2", "back 3 3", "tide 2 8 9", "step 4", "level 6", "mark 1 3 9 9", "hire 0 1", "hire 1 2", "bring 0 1", "smudge 1", "broken 4 1 0 0", "broken 5 0 1 2", "claim 0 2"), more...)
}

// text returns a text of lines.
func text(lines ...string) string { return strings.Join(lines, "\n") + "\n" }

// expectErrors wants that the last lines have these errors.
func expectErrors(t *testing.T, lines []string, want ...api.Errno) {
	t.Helper()
	_, errors := play(t, lines)
	if last := errors[len(lines)-len(want):]; !slices.Equal(last, want) {
		t.Errorf("errors of %q: %v, not %v", lines, last, want)
	}
}

func TestExamples(t *testing.T) {
	expectErrors(t, example(), make([]api.Errno, 15)...)
	if r, e := book.Money(example()); r != (token.Range{Lo: 25, Hi: 25}) || e != api.OK {
		t.Errorf("Money: %v, %v", r, e)
	}
	if r, e := book.Chairs(example()); r != (count.Range{Lo: 4, Hi: 4}) || e != api.OK {
		t.Errorf("Chairs: %v, %v", r, e)
	}
	if s := report(t, example()); s != text("chairs 4..4", "least 0", "wet 2..2", "dry 9", "leave", "money 25..25", "mixed 0..0", "whole 0..1", "sure 0") {
		t.Errorf("Report: %q", s)
	}
	if s := report(t, example("hire 1 0")); s != text("chairs 4..4", "least 0", "wet 2..2", "dry 9", "leave 1", "whole 0..1", "sure 0") {
		t.Errorf("Report with a line more: %q", s)
	}
	expectErrors(t, example("place", "place", "place", "seen 9 0", "seen 0 3", "count 8 1", "uncount 2", "wrong 7", "off 10", "tide 4 1 1", "tide 0 5 8", "step 0", "mark 3 3 9 9", "mark 2 1 0 9", "hire 3 0", "smudge 1", "strike 9", "part 0 3 1", "part 0 0 3", "claim 3 2", "claim 2 3", "fit 10", "level 05", "level"),
		0, 0, 3, 7, 2, 2, 7, 2, 2, 7, 2, 9, 11, 2, 7, 6, 7, 7, 2, 2, 11, 2, 4, 4)
	if b := write(t, list("a")); string(b) != "01;a;0134\n" {
		t.Errorf("Write: %q", b)
	}
}

// The twelfth example of the document: a line that makes no sense is refused, and changes
// nothing.
func TestNoSense(t *testing.T) {
	s, _ := play(t, example())
	for _, line := range list("", "nonsense", "place 1", "place ", "seen 2", "seen 9 0", "seen 2 0", "count 5 0", "uncount 2", "wrong 7", "tide 2 9 8", "step 3", "mark 2 2 8 8", "raise 1 1", "hire 0 3", "smudge 1", "strike 3", "part 2 0 1", "claim 2 3", "fit 10") {
		x, errors := play(t, example(line))
		if errors[15] == api.OK || !same(s, x) {
			t.Errorf("%q: %v, %v", line, errors[15], x)
		}
		expectErrors(t, example(line, "off 2"), api.OK)
	}
}

// P12.1: what each line does, on the state at first or after some other lines.
func TestWhatLinesDo(t *testing.T) {
	for _, x := range []struct {
		before []string
		line   string
		do     func(s *book.State)
	}{
		{nil, "place", func(s *book.State) { s.Row.Places = []int{2, 2, 2, 2, 2} }},
		{list("seen 3 1"), "place", func(s *book.State) { s.Row.Places = []int{2, 2, 2, 1, 2} }},
		{nil, "seen 0 1", func(s *book.State) { s.Row.Places[0] = 1 }},
		{nil, "seen 3 0", func(s *book.State) { s.Row.Places[3] = 0 }},
		{list("seen 1 1"), "seen 1 2", func(s *book.State) { s.Row.Places[1] = 2 }},
		{list("seen 1 1"), "seen 1 0", func(s *book.State) { s.Row.Places[1] = 0 }},
		{nil, "count 3 2", func(s *book.State) { s.Row.Counts = []count.Count{{Many: 3, Number: 2}} }},
		{list("count 3 2"), "back 4 3", func(s *book.State) {
			s.Row.Counts = []count.Count{{Many: 3, Number: 2}, {Back: true, Many: 4, Number: 3}}
		}},
		{list("wrong 1"), "back 0 1", func(s *book.State) { s.Row.Counts = []count.Count{{Back: true, Number: 1}} }},
		{list("count 1 1", "count 2 2", "count 3 3"), "uncount 1", func(s *book.State) {
			s.Row.Counts = []count.Count{{Many: 1, Number: 1}, {Many: 3, Number: 3}}
		}},
		{list("count 1 1", "count 2 2"), "uncount 0", func(s *book.State) { s.Row.Counts = []count.Count{{Many: 2, Number: 2}} }},
		{list("count 1 1"), "uncount 0", func(s *book.State) { s.Row.Counts = nil }},
		{nil, "wrong 6", func(s *book.State) { s.Row.Wrong = 6 }},
		{list("wrong 6"), "wrong 0", func(s *book.State) { s.Row.Wrong = 0 }},
		{nil, "off 9", func(s *book.State) { s.Row.Off = 9 }},
		{nil, "off 0", func(s *book.State) { s.Row.Off = 0 }},
		{nil, "tide 0 3 5", func(s *book.State) { s.Table.Heights[0] = tide.Range{Lo: 3, Hi: 5} }},
		{list("step 99"), "tide 3 99 99", func(s *book.State) { s.Table.Heights[3] = tide.Range{Lo: 99, Hi: 99} }},
		{nil, "step 0", func(s *book.State) { s.Table.Step = 0 }},
		{nil, "step 99", func(s *book.State) { s.Table.Step = 99 }},
		{nil, "level 0", func(s *book.State) { s.Table.Levels = []int{0} }},
		{list("level 0"), "level 99", func(s *book.State) { s.Table.Levels = []int{0, 99} }},
		{list("level 1", "level 2", "level 3"), "raise 1 9", func(s *book.State) { s.Table.Levels = []int{1, 9, 3} }},
		{nil, "mark 0 3 4 99", func(s *book.State) { s.Table.Marks = []tide.Mark{{To: 3, Highest: tide.Range{Lo: 4, Hi: 99}}} }},
		{list("mark 2 2 5 5"), "mark 1 2 0 5", func(s *book.State) {
			s.Table.Marks = []tide.Mark{{From: 2, To: 2, Highest: tide.Range{Lo: 5, Hi: 5}}, {From: 1, To: 2, Highest: tide.Range{Hi: 5}}}
		}},
		{list("mark 0 0 1 5", "mark 1 1 2 5", "mark 2 2 3 5"), "unmark 1", func(s *book.State) {
			s.Table.Marks = []tide.Mark{{Highest: tide.Range{Lo: 1, Hi: 5}}, {From: 2, To: 2, Highest: tide.Range{Lo: 3, Hi: 5}}}
		}},
		{nil, "hire 2 1", func(s *book.State) { s.Book.Lines = []token.Line{{Kind: token.Hire, Chair: 2, Token: 1}} }},
		{list("hire 2 1"), "bring 0 2", func(s *book.State) {
			s.Book.Lines = []token.Line{{Kind: token.Hire, Chair: 2, Token: 1}, {Kind: token.Return, Token: 2}}
		}},
		{list("hire 0 0", "bring 1 1"), "smudge 1", func(s *book.State) {
			s.Book.Lines = []token.Line{{Kind: token.Hire}, {Kind: token.Return, Chair: 1, Token: -1}}
		}},
		{list("hire 0 0", "hire 1 1", "bring 2 2"), "strike 1", func(s *book.State) {
			s.Book.Lines = []token.Line{{Kind: token.Hire}, {Kind: token.Return, Chair: 2, Token: 2}}
		}},
		{nil, "broken 9 0 1 2", func(s *book.State) { s.Yard.Chairs = []mend.Chair{{Size: 9, Parts: mend.Parts{0, 1, 2}}} }},
		{list("broken 9 0 1 2"), "broken 0 2 1 0", func(s *book.State) {
			s.Yard.Chairs = []mend.Chair{{Size: 9, Parts: mend.Parts{0, 1, 2}}, {Parts: mend.Parts{2, 1, 0}}}
		}},
		{list("broken 1 0 0 0", "broken 2 0 0 0"), "part 1 0 2", func(s *book.State) {
			s.Yard.Chairs = []mend.Chair{{Size: 1}, {Size: 2, Parts: mend.Parts{2, 0, 0}}}
		}},
		{list("broken 1 1 1 1"), "part 0 2 0", func(s *book.State) { s.Yard.Chairs = []mend.Chair{{Size: 1, Parts: mend.Parts{1, 1, 0}}} }},
		{nil, "fit 9", func(s *book.State) { s.Yard.Fit = 9 }},
		{nil, "fit 0", func(s *book.State) { s.Yard.Fit = 0 }},
		{nil, "claim 0 7", func(s *book.State) { s.Yard.Claims = []mend.Range{{Hi: 7}} }},
		{list("claim 0 1"), "claim 0 0", func(s *book.State) { s.Yard.Claims = []mend.Range{{Hi: 1}, {}} }},
		{list("claim 0 1", "claim 0 2", "claim 0 3"), "unclaim 2", func(s *book.State) { s.Yard.Claims = []mend.Range{{Hi: 1}, {Hi: 2}} }},
	} {
		lines := append(slices.Clone(x.before), x.line)
		want, _ := play(t, x.before)
		x.do(&want)
		s, errors := play(t, lines)
		if errors[len(x.before)] != api.OK || !same(s, want) {
			t.Errorf("%q: %v, %v, not %v", lines, errors, s, want)
		}
	}
	if s, _ := play(t, nil); !same(s, atFirst()) {
		t.Errorf("the state at first: %v", s)
	}
}

// Each word is one of those that have been tried.
func TestAllWords(t *testing.T) {
	numbers := map[int]string{0: "", 1: " 999", 2: " 999 999", 3: " 999 999 999", 4: " 999 999 999 999"}
	for word, k := range kinds() {
		for many, n := range numbers {
			_, errors := play(t, list(word+n))
			if form := errors[0] == api.ErrForm; form != (many != k.numbers) {
				t.Errorf("%q: %v", word+n, errors)
			}
		}
	}
}

// P12.1: the state and the errors are those of the oracle.
func TestPlay(t *testing.T) {
	met := map[api.Errno]int{}
	words := map[string]int{}
	eachPast(t, api.MaxBookSession, func(t *testing.T, p past, rnd *rand.Rand) {
		s, errors := play(t, p.lines)
		if !slices.Equal(errors, p.errors) || !same(s, p.end()) {
			t.Errorf("Play of %q: %v, %v, not %v, %v", p.lines, s, errors, p.end(), p.errors)
		}
		for i, e := range p.errors {
			met[e]++
			if e == api.OK {
				words[strings.Fields(p.lines[i])[0]]++
			}
		}
	})
	for _, e := range []api.Errno{api.OK, api.ErrRange, api.ErrLimit, api.ErrForm, api.ErrTwice, api.ErrNone, api.ErrFail, api.ErrFalse} {
		atLeast(t, met[e], 60, "lines with "+e.Error())
	}
	for word := range kinds() {
		atLeast(t, words[word], 60, "accepted lines with "+word)
	}
}

// P12.2 and P12.3: what the layers return of the state.
func TestMoneyChairsReport(t *testing.T) {
	left, kept := 0, 0
	eachPast(t, api.MaxBookSession, func(t *testing.T, p past, rnd *rand.Rand) {
		s := p.end()
		wantMoney, wantE := token.Money(s.Book, len(s.Book.Lines))
		if r, e := book.Money(p.lines); r != wantMoney || e != wantE {
			t.Errorf("Money of %q: %v, %v, not %v, %v", p.lines, r, e, wantMoney, wantE)
		}
		wantChairs, _ := count.Chairs(s.Row, 0, len(s.Row.Places)-1)
		if r, e := book.Chairs(p.lines); r != wantChairs || e != api.OK {
			t.Errorf("Chairs of %q: %v, %v, not %v", p.lines, r, e, wantChairs)
		}
		want := reportOf(s)
		if r := report(t, p.lines); r != want {
			t.Errorf("Report of %q: %q, not %q", p.lines, r, want)
		}
		if wantE == api.ErrFalse {
			left++
		} else if len(s.Book.Lines) > 0 {
			kept++
		}
	})
	atLeast(t, left, 100, "Books without a truth")
	atLeast(t, kept, 100, "Books with one")
}

// P12.3 by hand: several rows, several lines to leave, and none.
func TestReportByHand(t *testing.T) {
	for _, x := range []struct {
		lines []string
		want  string
	}{
		{nil, text("chairs 0..4", "least 0", "dry 5", "leave", "money 20..20", "mixed 0..0", "whole 0..0", "sure 0")},
		{list("level 4", "level 5", "level 6", "tide 1 5 6"), text("chairs 0..4", "least 0", "wet 0..0", "wet 1..4", "wet 4..4", "dry 6", "leave", "money 20..20", "mixed 0..0", "whole 0..0", "sure 0")},
		{list("hire 0 0", "hire 0 1", "hire 0 2", "bring 1 2"), text("chairs 0..4", "least 0", "dry 5", "leave 0 1 3", "whole 0..0", "sure 0")},
		{list("hire 0 0", "hire 1 1", "bring 0 1", "hire 2 2", "smudge 2"), text("chairs 0..4", "least 0", "dry 5", "leave", "money 30..30", "mixed 0..1", "whole 0..0", "sure 0")},
		{list("wrong 2", "count 4 3", "count 4 2", "seen 0 1"), text("chairs 2..3", "least 1", "dry 5", "leave", "money 20..20", "mixed 0..0", "whole 0..0", "sure 0")},
		{list("broken 5 1 1 1", "broken 5 1 1 2", "broken 6 2 1 1", "broken 6 1 0 0"), text("chairs 0..4", "least 0", "dry 5", "leave", "money 20..20", "mixed 0..0", "whole 2..3", "sure 2")},
	} {
		if s := report(t, x.lines); s != x.want {
			t.Errorf("Report of %q: %q, not %q", x.lines, s, x.want)
		}
	}
}

// P12.4 by hand: the records.
func TestWriteByHand(t *testing.T) {
	for _, x := range []struct {
		lines []string
		want  string
	}{
		{nil, ""},
		{list(""), "00;;0037\n"},
		{list("", ""), "00;;0037\n00;;0074\n"},
		{list("\x00"), "01;\x00;0037\n"},
		{list("\x00\x01"), "02;\x00\x01;0040\n"},
		{list("\x00\x00\x01\x01"), "04;\x00\x00\x01\x01;0049\n"},
		{list("a", "a"), "01;a;0134\n01;a;0171\n"},
		{list("\xff\xff"), "02;\xff\xff;1057\n"},
		{list(strings.Repeat("d", 10)), "10;dddddddddd;0070\n"},
		{list(";;\n", "\n"), "03;;;\n;0323\n01;\n;0084\n"},
		{list(strings.Repeat("\xff", 50)), "50;" + strings.Repeat("\xff", 50) + ";9616\n"},
	} {
		if b := write(t, x.lines); string(b) != x.want {
			t.Errorf("Write of %q: %q, not %q", x.lines, b, x.want)
		}
	}
}

// P12.4 by hand: what can be read.
func TestRecoverByHand(t *testing.T) {
	long, longer := strings.Repeat("1", 50), strings.Repeat("1", 51)
	full := fileOf(slices.Repeat(list("off 1"), 41))
	for _, x := range []struct {
		b     string
		want  []string
		bytes int
	}{
		{"", nil, 0}, {"0", nil, 0}, {"00", nil, 0}, {"00;", nil, 0}, {"00;;", nil, 0}, {"00;;0037", nil, 0}, {"00;;0037\n", list(""), 9}, {"00;;0037\n0", list(""), 9},
		{"\n00;;0037\n", nil, 0}, {" 00;;0037\n", nil, 0}, {"00;;0037\n\n", list(""), 9},
		{"00;;0038\n", nil, 0}, {"00;;0074\n", nil, 0}, {"00;;037\n", nil, 0}, {"00;;00037\n", nil, 0}, {"0;;0037\n", nil, 0}, {"000;;0037\n", nil, 0},
		{"00,;0037\n", nil, 0}, {"00;,0037\n", nil, 0}, {"00;;0037\r", nil, 0}, {"00;;0037\r\n", nil, 0}, {"+0;;0037\n", nil, 0}, {"-0;;0037\n", nil, 0}, {" 0;;0037\n", nil, 0}, {"0/;;0037\n", nil, 0}, {"0:;;0037\n", nil, 0},
		{"01;a;0134\n01;a;0171\n", list("a", "a"), 20}, {"01;a;0134\n01;a;0134\n", list("a"), 10}, {"01;a;0134\n01;a;0171 ", list("a"), 10}, {"01;a;0134\n01;b;0171\n01;a;0208\n", list("a"), 10},
		{"02;a;;0134\n", nil, 0}, {"01;aa;0134\n", nil, 0}, {"03;;;\n;0323\n", list(";;\n"), 12},
		{recordOf(long, 0), list(long), 59}, {recordOf(longer, 0), nil, 0}, {recordOf("off 1", 0) + recordOf(longer, 1) + recordOf("off 1", 2), list("off 1"), 14},
		{recordOf("99", 0) + "99;", list("99"), 11}, {"99;" + strings.Repeat("a", 9999), nil, 0},
		{full[:39*14], slices.Repeat(list("off 1"), 39), 39 * 14}, {full[:40*14], slices.Repeat(list("off 1"), 40), 40 * 14}, {full, slices.Repeat(list("off 1"), 40), 40 * 14},
	} {
		lines, n := book.Recover([]byte(x.b))
		if !slices.Equal(lines, x.want) || n != x.bytes {
			t.Errorf("Recover of %q: %q, %d, not %q, %d", x.b, lines, n, x.want, x.bytes)
		}
	}
}

// P12.5 by hand: lines that could be read stay, also refused ones; those of the session
// only if they are accepted, after those.
func TestResumeByHand(t *testing.T) {
	for _, x := range []struct {
		b    string
		more []string
		want []string
	}{
		{"", nil, nil},
		{"rest", list("place", "nonsense", "uncount 0"), list("place")},
		{fileOf(list("nonsense", "level 5")), list("raise 0 6", "raise 1 6", "nonsense"), list("nonsense", "level 5", "raise 0 6")},
		{fileOf(list("place", "place", "place", "place")), list("place", "seen 6 1", "seen 7 1"), list("place", "place", "place", "place", "seen 6 1")},
		{fileOf(list("place", "level 1")) + "08;seen", list("seen 4 1", "seen 5 1"), list("place", "level 1", "seen 4 1")},
		{fileOf(list("place"))[1:], list("seen 4 1", "seen 3 1"), list("seen 3 1")},
		{fileOf(list("tide 0 9 9", "tide 3 99 99")), list("step 3", "step 4"), list("tide 0 9 9", "tide 3 99 99", "step 4")},
		{fileOf(list("count 4 1", "count 4 3", "count 4 2")), list("count 4 4", "uncount 0", "uncount 1", "uncount 1", "count 4 4"), list("count 4 1", "count 4 3", "count 4 2", "uncount 0", "count 4 4")},
	} {
		if b := resume(t, []byte(x.b), x.more); string(b) != fileOf(x.want) {
			t.Errorf("Resume of %q, %q: %q, not %q", x.b, x.more, b, fileOf(x.want))
		}
	}
}

// P12.4 and P12.5: files that were damaged, and what comes after them.
func TestDamagedFiles(t *testing.T) {
	cut, none, long := 0, 0, 0
	eachPast(t, api.MaxBookSession, func(t *testing.T, p past, rnd *rand.Rand) {
		b := damaged(rnd, []byte(fileOf(p.lines)))
		lines, n := book.Recover(b)
		want, wantN := readable(b)
		if !slices.Equal(lines, want) || n != wantN {
			t.Errorf("Recover of %q: %q, %d, not %q, %d", b, lines, n, want, wantN)
		}
		q := passed(want...)
		part := rnd.Intn(allParts)
		var more []string
		for range rnd.Intn(30) {
			line := someLine(rnd, q.end(), part)
			more = append(more, line)
			q.add(line)
		}
		for i, e := range q.errors[len(want):] {
			if e == api.OK {
				want = append(want, more[i])
			}
		}
		w, e := book.Resume(b, more)
		switch {
		case len(want) > api.MaxBookSession:
			long++
			if e != api.ErrLimit || w != nil {
				t.Errorf("Resume of %q, %q: %q, %v, of %d lines", b, more, w, e, len(want))
			}
		case e != api.OK || string(w) != fileOf(want):
			t.Errorf("Resume of %q, %q: %q, %v, not %q", b, more, w, e, want)
		}
		if len(lines) == 0 {
			none++
		} else if len(lines) < len(p.lines) {
			cut++
		}
	})
	atLeast(t, cut, 200, "files of which some lines can be read")
	atLeast(t, none, 20, "files of which nothing can be read")
	atLeast(t, long, 20, "sessions that are too long together")
}

// damaged returns the bytes with some damage, or sometimes none.
func damaged(rnd *rand.Rand, b []byte) []byte {
	at := rnd.Intn(len(b) + 1)
	switch rnd.Intn(5) {
	case 0:
		return b[:at]
	case 1:
		return slices.Delete(b, at, min(at+1+rnd.Intn(20), len(b)))
	case 2:
		return slices.Insert(b, at, byte(rnd.Intn(256)))
	case 3:
		for i := range b[at:min(at+1, len(b))] {
			b[at+i] ^= 1 << rnd.Intn(8)
		}
	}
	return b
}
