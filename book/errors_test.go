package book_test

import (
	"math/rand"
	"slices"
	"strconv"
	"strings"
	"testing"

	"foreshore/api"
	"foreshore/book"
	"foreshore/count"
	"foreshore/token"
)

// call is a call with a session, with what it has together with an error.
type call struct {
	name string
	do   func(lines []string) (zero bool, e api.Errno)
}

var (
	playing = call{"Play", func(lines []string) (bool, api.Errno) {
		s, errors, e := book.Play(lines)
		r, x, b, y := s.Row, s.Table, s.Book, s.Yard
		zero := r.Places == nil && r.Counts == nil && r.Wrong == 0 && r.Off == 0 &&
			x.Last == 0 && x.Heights == nil && x.Step == 0 && x.Levels == nil && x.Marks == nil &&
			b.Chairs == 0 && b.Coin == 0 && b.Box == 0 && b.Lines == nil && b.Counts == nil &&
			y.Chairs == nil && y.Fit == 0 && y.Claims == nil
		return zero && errors == nil, e
	}}
	paying = call{"Money", func(lines []string) (bool, api.Errno) {
		r, e := book.Money(lines)
		return r == token.Range{}, e
	}}
	counting = call{"Chairs", func(lines []string) (bool, api.Errno) {
		r, e := book.Chairs(lines)
		return r == count.Range{}, e
	}}
	reporting = call{"Report", func(lines []string) (bool, api.Errno) {
		s, e := book.Report(lines)
		return s == "", e
	}}
	writing = call{"Write", func(lines []string) (bool, api.Errno) {
		b, e := book.Write(lines)
		return b == nil, e
	}}
)

// resuming is Resume after these bytes.
func resuming(b string) call {
	return call{"Resume", func(lines []string) (bool, api.Errno) {
		w, e := book.Resume([]byte(b), lines)
		return w == nil, e
	}}
}

func calls() []call {
	return []call{playing, paying, counting, reporting, writing, resuming(""), resuming(fileOf(example())), resuming("rest"), resuming(fileOf(slices.Repeat(list("off 1"), 40)))}
}

// expect does the call, and wants the error, and with it nothing else.
func expect(t *testing.T, c call, lines []string, want api.Errno) {
	t.Helper()
	zero, e := c.do(lines)
	if e != want {
		t.Errorf("%s of %q: %v, not %v", c.name, lines, e, want)
	}
	if e != api.OK && !zero {
		t.Errorf("%s of %q: a result with %v", c.name, lines, e)
	}
}

// The row "all" of the errors: too many lines, or one that is too long, also if it would be
// refused, come before all other errors.
func TestErrorsOfTheSession(t *testing.T) {
	long := strings.Repeat("x", 51)
	for _, x := range []struct {
		name  string
		lines []string
		want  api.Errno
	}{
		{"no lines", nil, api.OK},
		{"40 refused lines", make([]string, 40), api.OK},
		{"40 lines", append(list("nonsense", "off 10"), slices.Repeat(list("place 1"), 38)...), api.OK},
		{"41 refused lines", make([]string, 41), api.ErrLimit},
		{"41 lines", slices.Repeat(list("off 1"), 41), api.ErrLimit},
		{"999 lines", slices.Repeat(list("off 1"), 999), api.ErrLimit},
		{"a line of 50 bytes", list(strings.Repeat("x", 50)), api.OK},
		{"a line of 50 bytes that are more than those of its runes", list(strings.Repeat("\u00e9", 25)), api.OK},
		{"a line of 51 bytes", list(long), api.ErrLimit},
		{"a line of 52 bytes in 26 runes", list(strings.Repeat("\u00e9", 26)), api.ErrLimit},
		{"a long line at the end", example(long), api.ErrLimit},
		{"a long line at first", append(list(long), example()...), api.ErrLimit},
		{"a long line that begins well", list("off 1" + strings.Repeat(" ", 46)), api.ErrLimit},
		{"too many lines that are too long", slices.Repeat(list(long), 41), api.ErrLimit},
		{"too many lines, and a Book without a truth", append(list("bring 0 0"), make([]string, 40)...), api.ErrLimit},
		{"a long line, and a Book without a truth", list("bring 0 0", long), api.ErrLimit},
		{"a line of 999 bytes", list("off 1", strings.Repeat("1", 999)), api.ErrLimit},
	} {
		t.Run(x.name, func(t *testing.T) {
			for _, c := range calls() {
				expect(t, c, x.lines, x.want)
			}
		})
	}
}

// Money has ErrFalse if the Book of the state has no truth; no other call has.
func TestErrorsOfMoney(t *testing.T) {
	for _, x := range []struct {
		lines []string
		want  api.Errno
	}{
		{list("bring 0 0"), api.ErrFalse},
		{list("hire 0 0", "hire 0 1"), api.ErrFalse},
		{list("hire 0 0", "hire 1 0"), api.ErrFalse},
		{list("hire 0 0", "hire 1 0", "smudge 1"), api.OK},
		{list("hire 0 0", "hire 1 0", "strike 0"), api.OK},
		{list("hire 0 0", "hire 1 1", "hire 2 1"), api.ErrFalse},
		{list("hire 0 0", "bring 0 1"), api.ErrFalse},
		{list("hire 0 0", "bring 0 1", "smudge 0"), api.OK},
		{list("hire 0 0", "bring 1 0"), api.ErrFalse},
		{list("hire 0 0", "bring 0 0", "hire 0 0"), api.OK},
		{list("bring 0 0", "nonsense", "strike 0"), api.OK},
		{list("bring 0 0", "strike 1"), api.ErrFalse},
	} {
		expect(t, paying, x.lines, x.want)
		for _, c := range []call{playing, counting, reporting, writing, resuming("")} {
			expect(t, c, x.lines, api.OK)
		}
	}
}

// Resume has ErrLimit if the lines that can be read, and the accepted ones of the session,
// are more than 40 together.
func TestErrorsOfResume(t *testing.T) {
	off := func(many int) []string { return slices.Repeat(list("off 1"), many) }
	bad := func(many int) []string { return slices.Repeat(list("nonsense"), many) }
	for _, x := range []struct {
		b    string
		more []string
		want api.Errno
	}{
		{fileOf(off(40)), nil, api.OK},
		{fileOf(off(40)), bad(40), api.OK},
		{fileOf(off(40)), off(1), api.ErrLimit},
		{fileOf(bad(40)), off(1), api.ErrLimit},
		{fileOf(bad(39)), off(1), api.OK},
		{fileOf(bad(39)), list("off 10", "off 2", "off 10"), api.OK},
		{fileOf(bad(39)), list("off 1", "off 2"), api.ErrLimit},
		{fileOf(off(20)), off(20), api.OK},
		{fileOf(off(20)), off(21), api.ErrLimit},
		{fileOf(off(20)), slices.Concat(bad(20), off(20)), api.OK},
		{fileOf(off(1)), off(40), api.ErrLimit},
		{"", off(40), api.OK},
		{fileOf(off(41)), nil, api.OK},
		{fileOf(off(41)), bad(1), api.OK},
		{fileOf(off(99)), off(1), api.ErrLimit},
		{fileOf(off(40))[1:], off(40), api.OK},
	} {
		expect(t, resuming(x.b), x.more, x.want)
	}
}

// ErrForm: what is none of the lines.
func TestErrForm(t *testing.T) {
	for _, line := range list(
		"", " ", "  ", "\n", "\x00", "0", "1 2", "x", "nothing", "nothing 1", "Place", "PLACE", "places", "plac", "place\n", "place\t", "\tplace", " place", "place ", "place 1", "place 0", "place place",
		"seen", "seen 1", "seen 1 ", "seen 1 1 1", "seen  1 1", "seen 1  1", "seen 1 1 ", " seen 1 1", "seen\t1 1", "seen 1\t1", "seen 1,1", "seen1 1", "seen 1 1\n", "seen 1 1\x00", "seen 1 x", "seen x 1", "seen 1 -1", "seen -1 1", "seen +1 1", "seen 1.0 1", "seen 0x1 1", "seen 1_0 1", "seen 1e1 1", "seen \u0661 1", "seen 1\u00a01",
		"seen 00 1", "seen 01 1", "seen 1 01", "seen 1 00", "seen 1 -0", "seen 1 000", "seen 010 1", "seen 1000 1", "seen 1 1000", "seen 0000 1", "seen 9999999999 1", "seen 18446744073709551617 1",
		"count 1", "count 1 1 1", "back", "back 1 1 1", "uncount", "uncount 1 1", "wrong", "wrong 1 1", "off", "off 1 1", "tide 1 5", "tide 1 5 5 5", "step", "step 1 1", "level", "level 1 1", "level 05", "raise 1", "raise 1 1 1", "mark 1 1 5", "mark 1 1 5 5 5", "unmark", "unmark 1 1",
		"hire 1", "hire 1 1 1", "bring 1", "bring 1 1 1", "smudge", "smudge 1 1", "strike", "strike 1 1", "broken 1 1 1", "broken 1 1 1 1 1", "part 1 1", "part 1 1 1 1", "fit", "fit 1 1", "claim 1", "claim 1 1 1", "unclaim", "unclaim 1 1",
		"off 1 off 1", "off off", "unmark 0 ", "off 3;", "off '3'", strings.Repeat("9", 50), "off "+strings.Repeat("9", 46), "off"+strings.Repeat(" 1", 23),
	) {
		expectErrors(t, list(line), api.ErrForm)
		expectErrors(t, example(line, "off 1"), api.ErrForm, api.OK)
	}
	for _, line := range list("off 0", "off 9", "step 0", "step 9", "step 10", "step 99", "place", "seen 0 0", "mark 0 0 0 99") {
		expectErrors(t, list(line), api.OK)
	}
	for _, line := range list("off 10", "off 99", "off 100", "off 999", "level 100", "level 999", "wrong 7", "wrong 109") {
		expectErrors(t, list(line), api.ErrRange)
	}
}

// The errors of the lines, in their order.
func TestErrorsOfLines(t *testing.T) {
	places, counts := slices.Repeat(list("place"), 3), slices.Repeat(list("count 0 0"), 6)
	levels, marks := slices.Repeat(list("level 5"), 6), slices.Repeat(list("mark 0 3 5 5"), 5)
	written, chairs, claims := slices.Repeat(list("hire 0 0"), 8), slices.Repeat(list("broken 1 1 1 1"), 5), slices.Repeat(list("claim 0 7"), 5)
	for _, x := range []struct {
		before []string
		ok     []string // accepted, each of them after before
		none   []string
		bad    []string // ErrRange
		full   []string // ErrLimit
	}{
		{places[:2], list("place"), nil, nil, nil},
		{places, list("seen 6 1", "count 7 7", "back 7 0"), list("seen 7 1", "seen 7 3"), list("count 8 0", "back 8 0"), list("place")},
		{nil, list("seen 0 0", "seen 3 2"), list("seen 4 0", "seen 999 999", "seen 4 3"), list("seen 0 3", "seen 3 999"), nil},
		{counts[1:], list("count 4 4", "back 4 0", "uncount 4"), list("uncount 5", "uncount 999"), list("count 5 0", "count 0 10", "back 5 0", "back 0 10", "count 999 999"), nil},
		{counts, list("uncount 5", "uncount 0"), list("uncount 6"), list("count 5 0", "count 0 10", "back 5 0", "back 0 10"), list("count 0 0", "back 0 0", "count 4 9", "back 4 4")},
		{list("wrong 1", "off 9"), list("count 0 9", "back 0 9", "count 4 4"), nil, list("count 0 10", "back 4 10"), nil},
		{nil, list("wrong 6", "off 9", "wrong 0", "off 0"), list("uncount 0"), list("wrong 7", "wrong 999", "off 10", "off 999"), nil},
		{list("step 99"), list("tide 0 0 2", "tide 3 97 99", "tide 3 99 99", "tide 0 0 0"), list("tide 4 1 1", "tide 4 2 1", "tide 999 99 100"), list("tide 0 1 4", "tide 0 2 1", "tide 3 98 100", "tide 3 100 100", "tide 3 99 101", "tide 3 0 99", "tide 3 999 999"), nil},
		{nil, list("step 99", "level 99", "level 0"), list("raise 0 1", "raise 0 100", "unmark 0"), list("step 100", "level 100", "level 999"), nil},
		{levels, list("raise 5 99", "raise 0 0"), list("raise 6 5", "raise 6 100"), list("level 100", "raise 5 100", "raise 0 999"), list("level 99", "level 0")},
		{levels[1:], list("level 99"), list("raise 5 5"), nil, nil},
		{nil, list("mark 0 3 5 99", "mark 3 3 5 5", "mark 0 0 0 5"), list("mark 4 4 5 5", "mark 0 4 5 5", "mark 4 0 5 5", "mark 4 3 6 5", "mark 3 4 99 100"), list("mark 1 0 5 5", "mark 3 2 6 5", "mark 0 0 6 5", "mark 0 0 5 100", "mark 0 3 100 100"), nil},
		{marks[1:], list("mark 0 3 5 5", "unmark 3"), list("unmark 4"), nil, nil},
		{marks, list("unmark 4", "unmark 0"), list("unmark 5", "mark 4 4 5 5", "mark 0 4 6 5"), list("mark 1 0 5 5", "mark 0 0 6 5", "mark 0 0 5 100"), list("mark 0 3 5 5", "mark 0 3 6 6")},
		{nil, list("hire 2 2", "bring 2 2", "hire 0 2", "bring 2 0"), list("hire 3 0", "hire 0 3", "bring 3 0", "bring 0 3", "hire 999 999", "smudge 0", "strike 0"), nil, nil},
		{written[1:], list("hire 0 0", "bring 0 0", "smudge 6", "strike 6", "strike 0"), list("smudge 7", "strike 7", "hire 3 0"), nil, nil},
		{written, list("smudge 7", "strike 7", "smudge 0"), list("smudge 8", "strike 8", "hire 3 0", "bring 0 3"), nil, list("hire 0 0", "bring 2 2")},
		{nil, list("broken 0 0 0 0", "broken 9 2 2 2"), list("part 0 0 0", "part 0 0 3", "unclaim 0"), list("broken 10 0 0 0", "broken 0 3 0 0", "broken 0 0 3 0", "broken 0 0 0 3", "broken 999 999 999 999"), nil},
		{chairs[1:], list("broken 9 2 2 2", "part 3 2 2"), list("part 4 0 0"), nil, nil},
		{chairs, list("part 4 2 2", "part 0 0 0"), list("part 5 0 0", "part 0 3 0", "part 5 3 3", "part 0 3 3", "part 5 0 3"), list("broken 10 0 0 0", "broken 0 0 0 3", "part 0 0 3", "part 4 2 999"), list("broken 9 2 2 2", "broken 0 0 0 0")},
		{nil, list("fit 0", "fit 9", "claim 0 7", "claim 0 0"), list("unclaim 0"), list("fit 10", "fit 999", "claim 1 0", "claim 0 8", "claim 8 8", "claim 8 7", "claim 999 999"), nil},
		{claims[1:], list("claim 0 0", "unclaim 3"), list("unclaim 4"), nil, nil},
		{claims, list("unclaim 4", "unclaim 0"), list("unclaim 5"), list("claim 1 0", "claim 0 8"), list("claim 0 7", "claim 0 0", "claim 7 7")},
	} {
		for want, lines := range map[api.Errno][]string{api.OK: x.ok, api.ErrNone: x.none, api.ErrRange: x.bad, api.ErrLimit: x.full} {
			for _, line := range lines {
				expectErrors(t, append(slices.Clone(x.before), line), append(make([]api.Errno, len(x.before)), want)...)
			}
		}
	}
	expectErrors(t, list("hire 0 0", "smudge 0", "smudge 0", "smudge 1", "hire 0 0", "strike 0", "smudge 0", "smudge 0"), 0, 0, api.ErrTwice, api.ErrNone, 0, 0, 0, api.ErrTwice)
}

// The errors of the state after a line, in their order, and after those of the line.
func TestErrorsOfTheState(t *testing.T) {
	smudged := slices.Repeat(list("hire 0 0"), 8)
	for n := range 7 {
		smudged = append(smudged, "smudge "+strconv.Itoa(n))
	}
	for _, x := range []struct {
		before []string
		line   string
		want   api.Errno
	}{
		// The Row has a truth.
		{nil, "count 4 5", api.ErrFalse},
		{nil, "back 0 1", api.ErrFalse},
		{list("wrong 1"), "back 0 1", api.OK},
		{list("wrong 1"), "back 0 2", api.ErrFalse},
		{list("wrong 1", "off 2"), "back 0 2", api.OK},
		{list("count 2 2"), "seen 1 0", api.ErrFalse},
		{list("count 2 2"), "seen 2 0", api.OK},
		{list("back 2 2"), "seen 1 0", api.OK},
		{list("back 2 2"), "seen 2 0", api.ErrFalse},
		{list("seen 3 0", "back 1 0", "seen 2 1"), "place", api.OK},
		{list("seen 3 0", "back 1 0", "seen 2 1", "back 2 1"), "place", api.ErrFalse},
		{list("seen 3 0", "seen 2 0", "back 2 0", "seen 1 1", "back 3 1"), "place", api.ErrFalse},
		{list("wrong 1", "count 4 4", "count 4 3"), "wrong 0", api.ErrFalse},
		{list("wrong 1", "count 4 4", "count 4 3"), "off 0", api.ErrFalse},
		{list("wrong 1", "count 4 4"), "count 4 2", api.ErrFalse},
		{list("wrong 2", "count 4 4"), "count 4 2", api.OK},
		{list("wrong 2", "off 2", "count 4 4", "count 4 1"), "off 1", api.ErrFalse},
		// Some list is of the Table, and it has a truth.
		{list("tide 0 9 9"), "step 4", api.OK},
		{list("tide 0 9 9"), "step 3", api.ErrFail},
		{nil, "tide 0 11 11", api.ErrFail},
		{nil, "tide 0 10 12", api.OK},
		{nil, "tide 3 11 13", api.ErrFail},
		{list("mark 0 0 5 5"), "tide 0 6 6", api.ErrFalse},
		{list("mark 0 0 5 5"), "tide 0 11 11", api.ErrFail},
		{list("mark 0 0 5 5"), "mark 0 0 6 6", api.ErrFalse},
		{list("mark 0 0 5 5"), "mark 0 0 6 5", api.ErrRange},
		{list("tide 0 5 6", "mark 0 0 6 6"), "step 0", api.ErrFalse},
		{list("tide 0 5 6", "mark 0 0 6 6"), "step 1", api.OK},
		{list("tide 0 9 9", "mark 0 0 9 9"), "step 3", api.ErrFail},
		// The readings of the Book; that it has no truth is allowed.
		{list("bring 0 0"), "bring 0 0", api.OK},
		{smudged, "smudge 7", api.ErrLimit},
		{smudged, "smudge 6", api.ErrTwice},
		{append(slices.Clone(smudged), "strike 7", "hire 1 1"), "smudge 7", api.ErrLimit},
		{append(slices.Clone(smudged), "strike 0"), "smudge 6", api.OK},
		// The parts that are not known, and the truth of the Yard.
		{list("broken 1 2 2 2", "broken 1 2 2 2"), "broken 1 2 2 1", api.OK},
		{list("broken 1 2 2 2", "broken 1 2 2 2"), "broken 1 2 2 2", api.ErrLimit},
		{list("broken 1 2 2 2", "broken 1 2 2 2", "broken 1 2 2 1"), "part 2 2 2", api.ErrLimit},
		{list("broken 1 2 2 2", "broken 1 2 2 2", "broken 1 2 1 1"), "part 2 2 2", api.OK},
		{list("claim 0 1", "broken 1 1 1 1", "broken 1 2 2 2", "broken 1 2 2 2"), "broken 1 1 1 1", api.ErrFalse},
		{list("claim 0 0", "broken 1 2 2 2", "broken 1 2 2 2"), "broken 1 2 2 2", api.ErrLimit},
		{nil, "claim 1 7", api.ErrFalse},
		{list("broken 1 1 1 1"), "claim 1 7", api.OK},
		{list("broken 1 1 1 1", "claim 1 7"), "part 0 1 0", api.ErrFalse},
		{list("broken 1 1 1 1", "claim 1 7"), "part 0 1 2", api.OK},
		{list("broken 1 1 1 0", "broken 3 0 0 1", "claim 0 0"), "fit 2", api.ErrFalse},
		{list("broken 1 1 1 0", "broken 2 0 0 1", "claim 1 1"), "fit 0", api.ErrFalse},
		{list("broken 1 1 1 0", "broken 2 0 0 1", "claim 1 1"), "unclaim 0", api.OK},
	} {
		expectErrors(t, append(slices.Clone(x.before), x.line), append(make([]api.Errno, len(x.before)), x.want)...)
	}
}

// Each error of each word that the chapter lists is met by sessions at random, but for
// those that need a full list, which TestErrorsOfLines has.
func TestAllErrorsAreMet(t *testing.T) {
	met := map[string]map[api.Errno]int{}
	eachPast(t, api.MaxBookSession, func(t *testing.T, p past, rnd *rand.Rand) {
		for i, line := range p.lines {
			word := strings.SplitN(line, " ", 2)[0]
			if met[word] == nil {
				met[word] = map[api.Errno]int{}
			}
			met[word][p.errors[i]]++
		}
	})
	for word, errors := range map[string][]api.Errno{
		"place": {3, 11}, "seen": {7, 2, 11}, "count": {2, 3, 11}, "back": {2, 3, 11}, "uncount": {7}, "wrong": {2, 11}, "off": {2, 11},
		"tide": {7, 2, 9, 11}, "step": {2, 9, 11}, "level": {2, 3}, "raise": {7, 2}, "mark": {7, 2, 11}, "unmark": {7},
		"hire": {7, 3}, "bring": {7, 3}, "smudge": {7, 6}, "strike": {7}, "broken": {2, 3}, "part": {7, 2, 11}, "fit": {2, 11}, "claim": {2, 11}, "unclaim": {7},
	} {
		for _, e := range append(errors, api.OK) {
			atLeast(t, met[word][e], 1, word+" with "+e.Error())
		}
		if e := api.ErrForm; word != "place" {
			atLeast(t, met[word][e], 1, word+" with "+e.Error())
		}
	}
}

// callAll does all calls.
func callAll(b []byte, lines []string) {
	for _, c := range calls() {
		c.do(lines)
	}
	book.Recover(b)
	book.Resume(b, lines)
}

// P1: no call panics, whatever the arguments are.
func TestNothingPanics(t *testing.T) {
	odd := list("0", "1", "2", "3", "9", "10", "99", "100", "999", "1000", "", "-1", "x", "4294967297")
	for word := range kinds() {
		for _, m := range odd {
			for _, n := range odd {
				lines := list(word, word+" "+m, word+" "+m+" "+n, word+" 0 "+m+" "+n, word+" "+m+" "+n+" "+n, word+" 0 0 "+m+" "+n, word+" "+m+" 1 1 "+n, word+" "+m+" "+n+" 1 1", word+" 1 1 1 "+m+" "+n)
				play(t, lines)
				play(t, example(lines...))
				book.Resume([]byte(fileOf(example(lines...))), lines)
			}
		}
	}
	for _, b := range list("", "0", "00", "99", "99;", "50;", "-1;;0000\n", "00;;00", "\xff\xff\xff", "01;\xff;9999\n", strings.Repeat("0", 9999), strings.Repeat("00;;0037\n", 999)) {
		callAll([]byte(b), list(b))
		callAll([]byte(b), nil)
		callAll([]byte(b), example(b))
	}
	callAll(nil, make([]string, 9999))
	callAll(nil, list(strings.Repeat("9", 1<<16)))
	rnd := rand.New(rand.NewSource(1))
	for range 3000 {
		b := make([]byte, rnd.Intn(60))
		for i := range b {
			b[i] = "0123456789;\n \x00\xffaoff"[rnd.Intn(19)]
		}
		callAll(b, list(string(b), "off "+string(b[:len(b)/2])))
	}
}
