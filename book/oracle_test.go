package book_test

import (
	"bytes"
	"fmt"
	"math/rand"
	"regexp"
	"slices"
	"strconv"
	"strings"
	"testing"

	"foreshore/api"
	"foreshore/book"
	"foreshore/count"
	"foreshore/mend"
	"foreshore/tide"
	"foreshore/token"
)

// The oracle: what the chapter defines, line by line, by the words of its table and of the
// definitions of the layers alone, without anything of the package but its types.

// The parts of a state.
const (
	ofRow = iota
	ofTable
	ofBook
	ofYard
	allParts
)

// kind is how many numbers a word has, and which part of the state it changes.
type kind struct{ numbers, part int }

func kinds() map[string]kind {
	return map[string]kind{
		"place": {0, ofRow}, "seen": {2, ofRow}, "count": {2, ofRow}, "back": {2, ofRow}, "uncount": {1, ofRow}, "wrong": {1, ofRow}, "off": {1, ofRow},
		"tide": {3, ofTable}, "step": {1, ofTable}, "level": {1, ofTable}, "raise": {2, ofTable}, "mark": {4, ofTable}, "unmark": {1, ofTable},
		"hire": {2, ofBook}, "bring": {2, ofBook}, "smudge": {1, ofBook}, "strike": {1, ofBook},
		"broken": {4, ofYard}, "part": {3, ofYard}, "fit": {1, ofYard}, "claim": {2, ofYard}, "unclaim": {1, ofYard},
	}
}

// atFirst returns the state at first.
func atFirst() book.State {
	five := tide.Range{Lo: 5, Hi: 5}
	return book.State{
		Row:   count.Row{Places: []int{2, 2, 2, 2}, Off: 1},
		Table: tide.Table{Last: 3, Heights: []tide.Range{five, five, five, five}, Step: 5},
		Book:  token.Book{Chairs: 3, Coin: 5, Box: 20},
		Yard:  mend.Yard{Fit: 1},
	}
}

// copied returns the state in memory of its own.
func copied(s book.State) book.State {
	s.Row.Places, s.Row.Counts = slices.Clone(s.Row.Places), slices.Clone(s.Row.Counts)
	s.Table.Heights, s.Table.Levels, s.Table.Marks = slices.Clone(s.Table.Heights), slices.Clone(s.Table.Levels), slices.Clone(s.Table.Marks)
	s.Book.Lines, s.Book.Counts = slices.Clone(s.Book.Lines), slices.Clone(s.Book.Counts)
	s.Yard.Chairs, s.Yard.Claims = slices.Clone(s.Yard.Chairs), slices.Clone(s.Yard.Claims)
	return s
}

// differ returns the parts of two states that are not the same.
func differ(a, b book.State) []int {
	r, s := a.Row, b.Row
	x, y := a.Table, b.Table
	k, l := a.Book, b.Book
	m, n := a.Yard, b.Yard
	var out []int
	for part, same := range []bool{
		slices.Equal(r.Places, s.Places) && slices.Equal(r.Counts, s.Counts) && r.Wrong == s.Wrong && r.Off == s.Off,
		x.Last == y.Last && slices.Equal(x.Heights, y.Heights) && x.Step == y.Step && slices.Equal(x.Levels, y.Levels) && slices.Equal(x.Marks, y.Marks),
		k.Chairs == l.Chairs && k.Coin == l.Coin && k.Box == l.Box && slices.Equal(k.Lines, l.Lines) && slices.Equal(k.Counts, l.Counts),
		slices.Equal(m.Chairs, n.Chairs) && m.Fit == n.Fit && slices.Equal(m.Claims, n.Claims),
	} {
		if !same {
			out = append(out, part)
		}
	}
	return out
}

func same(a, b book.State) bool { return len(differ(a, b)) == 0 }

// condition is an error, and whether it holds.
type condition struct {
	e  api.Errno
	is bool
}

func firstOf(conditions ...condition) api.Errno {
	for _, c := range conditions {
		if c.is {
			return c.e
		}
	}
	return api.OK
}

var shape = regexp.MustCompile(`^[a-z]+( (0|[1-9][0-9]?[0-9]?))*$`)

// split returns the word of a line, and its numbers.
func split(line string) (word string, n []int, ok bool) {
	if !shape.MatchString(line) {
		return "", nil, false
	}
	fields := strings.Fields(line)
	for _, f := range fields[1:] {
		x, _ := strconv.Atoi(f)
		n = append(n, x)
	}
	k, known := kinds()[fields[0]]
	return fields[0], n, known && k.numbers == len(n)
}

// after returns the state after a line, and the error of the line.
func after(s book.State, line string) (book.State, api.Errno) {
	word, n, ok := split(line)
	if !ok {
		return s, api.ErrForm
	}
	x := copied(s)
	change := []func(*book.State, string, []int) api.Errno{changeRow, changeTable, changeBook, changeYard}[kinds()[word].part]
	if e := firstOf(condition{change(&x, word, n), true}); e != api.OK {
		return s, e
	}
	if e := flawOf(x, kinds()[word].part); e != api.OK {
		return s, e
	}
	return x, api.OK
}

func changeRow(s *book.State, word string, n []int) api.Errno {
	r := &s.Row
	var e api.Errno
	switch word {
	case "place":
		if e = firstOf(condition{api.ErrLimit, len(r.Places) == 7}); e == api.OK {
			r.Places = append(r.Places, 2)
		}
	case "seen":
		if e = firstOf(condition{api.ErrNone, n[0] >= len(r.Places)}, condition{api.ErrRange, n[1] > 2}); e == api.OK {
			r.Places[n[0]] = n[1]
		}
	case "count", "back":
		if e = firstOf(condition{api.ErrRange, n[0] > len(r.Places) || n[1] > 9}, condition{api.ErrLimit, len(r.Counts) == 6}); e == api.OK {
			r.Counts = append(r.Counts, count.Count{Back: word == "back", Many: n[0], Number: n[1]})
		}
	case "uncount":
		if e = firstOf(condition{api.ErrNone, n[0] >= len(r.Counts)}); e == api.OK {
			r.Counts = slices.Delete(r.Counts, n[0], n[0]+1)
		}
	case "wrong":
		if e = firstOf(condition{api.ErrRange, n[0] > 6}); e == api.OK {
			r.Wrong = n[0]
		}
	case "off":
		if e = firstOf(condition{api.ErrRange, n[0] > 9}); e == api.OK {
			r.Off = n[0]
		}
	}
	return e
}

func changeTable(s *book.State, word string, n []int) api.Errno {
	t := &s.Table
	var e api.Errno
	switch word {
	case "tide":
		if e = firstOf(condition{api.ErrNone, n[0] > 3}, condition{api.ErrRange, n[1] > n[2] || n[2] > 99 || n[2] > n[1]+2}); e == api.OK {
			t.Heights[n[0]] = tide.Range{Lo: n[1], Hi: n[2]}
		}
	case "step":
		if e = firstOf(condition{api.ErrRange, n[0] > 99}); e == api.OK {
			t.Step = n[0]
		}
	case "level":
		if e = firstOf(condition{api.ErrRange, n[0] > 99}, condition{api.ErrLimit, len(t.Levels) == 6}); e == api.OK {
			t.Levels = append(t.Levels, n[0])
		}
	case "raise":
		if e = firstOf(condition{api.ErrNone, n[0] >= len(t.Levels)}, condition{api.ErrRange, n[1] > 99}); e == api.OK {
			t.Levels[n[0]] = n[1]
		}
	case "mark":
		if e = firstOf(condition{api.ErrNone, n[0] > 3 || n[1] > 3}, condition{api.ErrRange, n[0] > n[1] || n[2] > n[3] || n[3] > 99}, condition{api.ErrLimit, len(t.Marks) == 5}); e == api.OK {
			t.Marks = append(t.Marks, tide.Mark{From: n[0], To: n[1], Highest: tide.Range{Lo: n[2], Hi: n[3]}})
		}
	case "unmark":
		if e = firstOf(condition{api.ErrNone, n[0] >= len(t.Marks)}); e == api.OK {
			t.Marks = slices.Delete(t.Marks, n[0], n[0]+1)
		}
	}
	return e
}

func changeBook(s *book.State, word string, n []int) api.Errno {
	b := &s.Book
	var e api.Errno
	switch word {
	case "hire", "bring":
		kind := map[string]int{"hire": 1, "bring": 2}[word]
		if e = firstOf(condition{api.ErrNone, n[0] > 2 || n[1] > 2}, condition{api.ErrLimit, len(b.Lines) == 8}); e == api.OK {
			b.Lines = append(b.Lines, token.Line{Kind: kind, Chair: n[0], Token: n[1]})
		}
	case "smudge":
		if e = firstOf(condition{api.ErrNone, n[0] >= len(b.Lines)}); e != api.OK {
			return e
		}
		if e = firstOf(condition{api.ErrTwice, b.Lines[n[0]].Token == -1}); e == api.OK {
			b.Lines[n[0]].Token = -1
		}
	case "strike":
		if e = firstOf(condition{api.ErrNone, n[0] >= len(b.Lines)}); e == api.OK {
			b.Lines = slices.Delete(b.Lines, n[0], n[0]+1)
		}
	}
	return e
}

func changeYard(s *book.State, word string, n []int) api.Errno {
	y := &s.Yard
	var e api.Errno
	switch word {
	case "broken":
		if e = firstOf(condition{api.ErrRange, n[0] > 9 || n[1] > 2 || n[2] > 2 || n[3] > 2}, condition{api.ErrLimit, len(y.Chairs) == 5}); e == api.OK {
			y.Chairs = append(y.Chairs, mend.Chair{Size: n[0], Parts: mend.Parts{n[1], n[2], n[3]}})
		}
	case "part":
		if e = firstOf(condition{api.ErrNone, n[0] >= len(y.Chairs) || n[1] > 2}, condition{api.ErrRange, n[2] > 2}); e == api.OK {
			y.Chairs[n[0]].Parts[n[1]] = n[2]
		}
	case "fit":
		if e = firstOf(condition{api.ErrRange, n[0] > 9}); e == api.OK {
			y.Fit = n[0]
		}
	case "claim":
		if e = firstOf(condition{api.ErrRange, n[0] > n[1] || n[1] > 7}, condition{api.ErrLimit, len(y.Claims) == 5}); e == api.OK {
			y.Claims = append(y.Claims, mend.Range{Lo: n[0], Hi: n[1]})
		}
	case "unclaim":
		if e = firstOf(condition{api.ErrNone, n[0] >= len(y.Claims)}); e == api.OK {
			y.Claims = slices.Delete(y.Claims, n[0], n[0]+1)
		}
	}
	return e
}

// flawOf returns why a part of the state does not let it stand, or OK.
func flawOf(s book.State, part int) api.Errno {
	switch part {
	case ofRow:
		return firstOf(condition{api.ErrFalse, !rowHasTruth(s.Row)})
	case ofTable:
		list, truth := heightsOf(s.Table)
		return firstOf(condition{api.ErrFail, !list}, condition{api.ErrFalse, !truth})
	case ofBook:
		readings := 1
		for _, l := range s.Book.Lines {
			if l.Token == -1 {
				readings *= 3
			}
		}
		return firstOf(condition{api.ErrLimit, readings > 4096})
	}
	many := 0
	for _, c := range s.Yard.Chairs {
		for _, p := range c.Parts {
			if p == 2 {
				many++
			}
		}
	}
	if many > 8 {
		return api.ErrLimit
	}
	return firstOf(condition{api.ErrFalse, !yardHasTruth(s.Yard)})
}

// choices returns all lists with one number of each range.
func choices(ranges [][2]int) [][]int {
	lists := [][]int{nil}
	for _, r := range ranges {
		var longer [][]int
		for _, l := range lists {
			for n := r[0]; n <= r[1]; n++ {
				longer = append(longer, append(slices.Clone(l), n))
			}
		}
		lists = longer
	}
	return lists
}

// known returns the range of a place or a part: 0..1, if it is not known.
func known(n int) [2]int {
	if n == 2 {
		return [2]int{0, 1}
	}
	return [2]int{n, n}
}

func rowHasTruth(r count.Row) bool {
	var ranges [][2]int
	for _, p := range r.Places {
		ranges = append(ranges, known(p))
	}
	return slices.ContainsFunc(choices(ranges), func(truth []int) bool {
		wrong, worst := 0, 0
		for _, c := range r.Counts {
			about := truth[:c.Many]
			if c.Back {
				about = truth[len(truth)-c.Many:]
			}
			off := c.Number
			for _, n := range about {
				off -= n
			}
			if off != 0 {
				wrong++
			}
			worst = max(worst, off, -off)
		}
		return wrong <= r.Wrong && worst <= r.Off
	})
}

// heightsOf reports whether some list is of the table, and whether it has a truth.
func heightsOf(t tide.Table) (list, truth bool) {
	var ranges [][2]int
	for _, h := range t.Heights {
		ranges = append(ranges, [2]int{h.Lo, h.Hi})
	}
	for _, l := range choices(ranges) {
		steps := true
		for i := range len(l) - 1 {
			steps = steps && l[i+1]-l[i] <= t.Step && l[i]-l[i+1] <= t.Step
		}
		wrong := slices.ContainsFunc(t.Marks, func(m tide.Mark) bool {
			highest := slices.Max(l[m.From : m.To+1])
			return highest < m.Highest.Lo || highest > m.Highest.Hi
		})
		list, truth = list || steps, truth || steps && !wrong
	}
	return list, truth
}

func yardHasTruth(y mend.Yard) bool {
	var ranges [][2]int
	for _, c := range y.Chairs {
		for _, p := range c.Parts {
			ranges = append(ranges, known(p))
		}
	}
	return len(y.Claims) == 0 || slices.ContainsFunc(choices(ranges), func(truth []int) bool {
		var chairs []mend.Chair
		for i, c := range y.Chairs {
			chairs = append(chairs, mend.Chair{Size: c.Size, Parts: mend.Parts(truth[3*i:])})
		}
		most := mostOf(chairs, y.Fit)
		return !slices.ContainsFunc(y.Claims, func(c mend.Range) bool { return most < c.Lo || most > c.Hi })
	})
}

// mostOf returns the most chairs: the first one alone, or with any other one.
func mostOf(chairs []mend.Chair, fit int) int {
	if len(chairs) == 0 {
		return 0
	}
	a, rest := chairs[0], chairs[1:]
	if a.Parts == (mend.Parts{1, 1, 1}) {
		return 1 + mostOf(rest, fit)
	}
	most := mostOf(rest, fit)
	for i, b := range rest {
		fits := b.Parts != mend.Parts{1, 1, 1} && a.Size-b.Size <= fit && b.Size-a.Size <= fit
		for k := range a.Parts {
			fits = fits && a.Parts[k]+b.Parts[k] > 0
		}
		if fits {
			most = max(most, 1+mostOf(slices.Delete(slices.Clone(rest), i, i+1), fit))
		}
	}
	return most
}

// reportOf returns the report of a state.
func reportOf(s book.State) string {
	var b strings.Builder
	chairs, _ := count.Chairs(s.Row, 0, len(s.Row.Places)-1)
	least, _ := count.Least(s.Row)
	fmt.Fprintf(&b, "chairs %d..%d\nleast %d\n", chairs.Lo, chairs.Hi, least)
	for row := range s.Table.Levels {
		r, _ := tide.Reach(s.Table, row)
		fmt.Fprintf(&b, "wet %d..%d\n", r.Lo, r.Hi)
	}
	dry, _ := tide.Dry(s.Table, 0, 3)
	fmt.Fprintf(&b, "dry %d\nleave", dry)
	leave, _ := token.Leave(s.Book)
	for _, n := range leave {
		fmt.Fprintf(&b, " %d", n)
	}
	fmt.Fprintln(&b)
	if len(leave) == 0 {
		money, _ := token.Money(s.Book, len(s.Book.Lines))
		mixed, _ := token.Mixed(s.Book)
		fmt.Fprintf(&b, "money %d..%d\nmixed %d..%d\n", money.Lo, money.Hi, mixed.Lo, mixed.Hi)
	}
	whole, _ := mend.Bounds(s.Yard)
	_, sure, _ := mend.Sure(s.Yard)
	fmt.Fprintf(&b, "whole %d..%d\nsure %d\n", whole.Lo, whole.Hi, sure)
	return b.String()
}

// recordOf returns the record of a line.
func recordOf(line string, index int) string {
	check := 37 * (index + 1)
	for k, b := range []byte(line) {
		check += (2*k + 1) * int(b)
	}
	return fmt.Sprintf("%02d;%s;%04d\n", len(line), line, check%9967)
}

// fileOf returns the file of lines.
func fileOf(lines []string) string {
	var b strings.Builder
	for i, line := range lines {
		b.WriteString(recordOf(line, i))
	}
	return b.String()
}

// readable returns what can be read of the bytes: with each record lines of all lengths
// are tried.
func readable(b []byte) (lines []string, n int) {
	for len(lines) < 40 {
		found := false
		for many := range 51 {
			if found || len(b) < n+3+many {
				break
			}
			line := string(b[n+3 : n+3+many])
			r := recordOf(line, len(lines))
			if bytes.HasPrefix(b[n:], []byte(r)) {
				found, n, lines = true, n+len(r), append(lines, line)
			}
		}
		if !found {
			break
		}
	}
	return lines, n
}

// past is a session, with the state before each line and after the last one, and the
// errors.
type past struct {
	lines  []string
	states []book.State
	errors []api.Errno
}

func (p past) end() book.State { return p.states[len(p.lines)] }

// accepted returns the lines that are accepted.
func (p past) accepted() []string {
	var out []string
	for i, line := range p.lines {
		if p.errors[i] == api.OK {
			out = append(out, line)
		}
	}
	return out
}

// passed executes lines.
func passed(lines ...string) past {
	p := past{states: []book.State{atFirst()}}
	for _, line := range lines {
		p.add(line)
	}
	return p
}

func (p *past) add(line string) {
	s, e := after(p.end(), line)
	p.lines, p.states, p.errors = append(p.lines, line), append(p.states, s), append(p.errors, e)
}

// up returns a number below the end, but sometimes another one.
func up(rnd *rand.Rand, end int) int {
	if end == 0 || rnd.Intn(12) == 0 {
		return []int{end, end + 1, 9, 10, 99, 100, 999}[rnd.Intn(7)]
	}
	return rnd.Intn(end)
}

// between returns a number from one to the other, but sometimes another one.
func between(rnd *rand.Rand, from, to int) int {
	if to < from || rnd.Intn(15) == 0 {
		return up(rnd, 100)
	}
	return from + rnd.Intn(to-from+1)
}

// someLine returns a line about a part of the state, mostly one that makes sense.
func someLine(rnd *rand.Rand, s book.State, part int) string {
	var words []string
	for word, k := range kinds() {
		if k.part == part {
			words = append(words, word)
		}
	}
	slices.Sort(words)
	word := words[rnd.Intn(len(words))]
	line := word
	for _, n := range someNumbers(rnd, s, word) {
		line += " " + strconv.Itoa(n)
	}
	if rnd.Intn(15) == 0 {
		return spoiled(rnd, line)
	}
	return line
}

func someNumbers(rnd *rand.Rand, s book.State, word string) []int {
	places, levels, chairs := len(s.Row.Places), len(s.Table.Levels), len(s.Yard.Chairs)
	low := between(rnd, 3, 8)
	switch word {
	case "seen":
		return []int{up(rnd, places), up(rnd, 3)}
	case "count", "back":
		many := up(rnd, places+1)
		return []int{many, between(rnd, many/3, 1+many/2)}
	case "uncount":
		return []int{up(rnd, len(s.Row.Counts))}
	case "wrong":
		return []int{between(rnd, 0, 2)}
	case "off":
		return []int{between(rnd, 0, 2)}
	case "tide":
		return []int{up(rnd, 4), low, between(rnd, low-1, low+3)}
	case "step":
		return []int{between(rnd, 1, 6)}
	case "level":
		return []int{between(rnd, 3, 9)}
	case "raise":
		return []int{up(rnd, levels), between(rnd, 3, 9)}
	case "mark":
		from := up(rnd, 4)
		return []int{from, between(rnd, max(from-1, 0), 3+from/3), low, between(rnd, low-1, low+3)}
	case "unmark":
		return []int{up(rnd, len(s.Table.Marks))}
	case "hire", "bring":
		return []int{up(rnd, 3), up(rnd, 3)}
	case "smudge", "strike":
		return []int{up(rnd, len(s.Book.Lines))}
	case "broken":
		return []int{between(rnd, 3, 6), up(rnd, 3), up(rnd, 3), up(rnd, 3)}
	case "part":
		return []int{up(rnd, chairs), up(rnd, 3), up(rnd, 3)}
	case "fit":
		return []int{between(rnd, 0, 3)}
	case "claim":
		many := between(rnd, 0, 2)
		return []int{many, between(rnd, max(many-1, 0), many+2)}
	case "unclaim":
		return []int{up(rnd, len(s.Yard.Claims))}
	}
	return nil
}

// spoiled returns a line that is perhaps none of the lines any more.
func spoiled(rnd *rand.Rand, line string) string {
	at := rnd.Intn(len(line) + 1)
	switch rnd.Intn(6) {
	case 0:
		return line + " "
	case 1:
		return line + " " + strconv.Itoa(rnd.Intn(3))
	case 2:
		return strings.Replace(line, " ", " 0", 1)
	case 3:
		return line[:at]
	case 4:
		return line[:at] + string([]byte{byte(rnd.Intn(256))}) + line[at:]
	}
	return strings.ToUpper(line)
}

// somePast returns a session of at most so many lines, often about one part of the state.
func somePast(rnd *rand.Rand, most int) past {
	p := passed()
	about := rnd.Intn(2 * allParts)
	for range rnd.Intn(most + 1) {
		part := about
		if part >= allParts || rnd.Intn(8) == 0 {
			part = rnd.Intn(allParts)
		}
		p.add(someLine(rnd, p.end(), part))
	}
	return p
}

// eachPast calls f for sessions of at most so many lines.
func eachPast(t *testing.T, most int, f func(t *testing.T, p past, rnd *rand.Rand)) {
	t.Helper()
	t.Parallel()
	for seed := range 1500 {
		rnd := rand.New(rand.NewSource(int64(seed)))
		f(t, somePast(rnd, most), rnd)
		if t.Failed() {
			return
		}
	}
}

// atLeast wants that a test has met enough of what it is about.
func atLeast(t *testing.T, met, wanted int, what string) {
	t.Helper()
	if !t.Failed() && met < wanted {
		t.Errorf("only %d %s", met, what)
	}
}

// The calls of a session of which the test says that they have a result.

func play(t *testing.T, lines []string) (book.State, []api.Errno) {
	t.Helper()
	s, errors, e := book.Play(lines)
	if e != api.OK || len(errors) != len(lines) {
		t.Fatalf("Play of %q: %v, %v", lines, errors, e)
	}
	return s, errors
}

func report(t *testing.T, lines []string) string {
	t.Helper()
	s, e := book.Report(lines)
	if e != api.OK {
		t.Fatalf("Report of %q: %v", lines, e)
	}
	return s
}

func write(t *testing.T, lines []string) []byte {
	t.Helper()
	b, e := book.Write(lines)
	if e != api.OK {
		t.Fatalf("Write of %q: %v", lines, e)
	}
	return b
}

func resume(t *testing.T, b []byte, more []string) []byte {
	t.Helper()
	w, e := book.Resume(b, more)
	if e != api.OK {
		t.Fatalf("Resume of %q, %q: %v", b, more, e)
	}
	return w
}
