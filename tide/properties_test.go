package tide_test

import (
	"math/rand"
	"slices"
	"testing"

	"foreshore/api"
	"foreshore/tide"
)

// inside reports whether the first range is in the second one.
func inside(a, b tide.Range) bool { return b.Lo <= a.Lo && a.Hi <= b.Hi }

// proved returns the truths of a table, as ProveTruth says.
func proved(x tide.Table) [][]int {
	var out [][]int
	for _, l := range combinations(x.Heights) {
		if tide.ProveTruth(x, l) {
			out = append(out, l)
		}
	}
	return out
}

// P2.6, P2 and P3: what is returned holds in each truth that is proved, and
// both ends are reached.
func TestInEachTruth(t *testing.T) {
	eachTrueTable(t, func(t *testing.T, x tide.Table, rnd *rand.Rand) {
		truths := proved(x)
		if l := bounds(t, x); !slices.Equal(l, boundsOf(truths)) {
			t.Errorf("Bounds of %v: %v, but %v", x, l, boundsOf(truths))
		}
		var played [][][]int
		for _, l := range truths {
			played = append(played, play(t, x, l))
		}
		for row := range x.Levels {
			var soon []int
			for _, wet := range played {
				soon = append(soon, append(wet[row], x.Last+1)[0])
			}
			if r := reach(t, x, row); r != to(slices.Min(soon), slices.Max(soon)) {
				t.Errorf("Reach of %v, %d: %v, but %v", x, row, r, soon)
			}
		}
		eachRowAndHour(x, func(row, hour int) {
			v := wet(t, x, row, hour)
			for i, wet := range played {
				if is := slices.Contains(wet[row], hour); v == yes && !is || v == no && is {
					t.Errorf("Wet of %v, %d, %d: %d, but %v", x, row, hour, v, truths[i])
				}
			}
		})
		if l := leave(t, x); len(l) != 0 {
			t.Errorf("Leave of %v: %v", x, l)
		}
	})
}

// P2.7: higher rows.
func TestHigherRows(t *testing.T) {
	eachTrueTable(t, func(t *testing.T, x tide.Table, rnd *rand.Rand) {
		heights := truthsOf(x)[0]
		for high := range x.Levels {
			for low := range x.Levels {
				if x.Levels[high] < x.Levels[low] {
					continue
				}
				rows := play(t, x, heights)
				for _, hour := range rows[high] {
					if !slices.Contains(rows[low], hour) {
						t.Errorf("Play of %v, %v: the row %d is wet in the hour %d, but not %d", x, heights, high, hour, low)
					}
				}
				if a, b := reach(t, x, high), reach(t, x, low); a.Lo < b.Lo || a.Hi < b.Hi {
					t.Errorf("Reach of %v: of the row %d %v, of %d %v", x, high, a, low, b)
				}
			}
		}
	})
}

// P2.8: a row at the level of Dry, one that is lower by 1, and more hours.
func TestRowAtTheLevelOfDry(t *testing.T) {
	eachTrueTable(t, func(t *testing.T, x tide.Table, rnd *rand.Rand) {
		eachSpan(x, func(from, to int) {
			n := dry(t, x, from, to)
			y := copied(x)
			y.Levels = []int{n, max(n-1, 0)}
			surely, perhaps := true, false
			for hour := from; hour <= to; hour++ {
				surely = surely && wet(t, y, 0, hour) == no
				perhaps = perhaps || wet(t, y, 1, hour) != no
			}
			if !surely || perhaps != (n > 0) {
				t.Errorf("Dry of %v, %d, %d: %d, but %v, %v", x, from, to, n, surely, perhaps)
			}
			if from > 0 && dry(t, x, from-1, to) < n || to < x.Last && dry(t, x, from, to+1) < n {
				t.Errorf("Dry of %v, %d, %d: %d, but less for more hours", x, from, to, n)
			}
		})
		eachRowAndHour(x, func(row, hour int) {
			if v, n := wet(t, x, row, hour), dry(t, x, hour, hour); (v == no) != (n <= x.Levels[row]) {
				t.Errorf("Wet of %v, %d, %d: %d, but Dry %d", x, row, hour, v, n)
			}
		})
	})
}

// P2.9: the heights of hours that do not follow each other.
func TestStep(t *testing.T) {
	eachTrueTable(t, func(t *testing.T, x tide.Table, rnd *rand.Rand) {
		for _, l := range proved(x) {
			eachSpan(x, func(from, to int) {
				if distance(l[from], l[to]) > x.Step*(to-from) {
					t.Errorf("%v is a truth of %v", l, x)
				}
			})
		}
	})
}

// wider wants that in the second table no bounds are narrower, and Dry is not
// smaller, than in the first one, which has a truth.
func wider(t *testing.T, x, y tide.Table) {
	t.Helper()
	a, b := bounds(t, x), bounds(t, y)
	for hour := range a {
		if !inside(a[hour], b[hour]) {
			t.Errorf("Bounds of %v: %v, of %v: %v", x, a, y, b)
		}
	}
	for row := range x.Levels {
		if !inside(reach(t, x, row), reach(t, y, row)) {
			t.Errorf("Reach of %v, %d is narrower than of %v", y, row, x)
		}
	}
	eachSpan(x, func(from, to int) {
		if dry(t, x, from, to) > dry(t, y, from, to) {
			t.Errorf("Dry of %v, %d, %d is smaller than of %v", y, from, to, x)
		}
	})
}

// eachWider calls the function with many tables, and a wider one of each.
func eachWider(t *testing.T, widen func(x *tide.Table, rnd *rand.Rand), f func(t *testing.T, x, y tide.Table)) {
	t.Helper()
	met := map[bool]int{}
	eachTable(t, func(t *testing.T, x tide.Table, rnd *rand.Rand) {
		y := copied(x)
		widen(&y, rnd)
		if tide.CheckTable(y) == api.ErrLimit {
			return
		}
		isTrue := len(truthsOf(x)) > 0
		met[isTrue]++
		if isTrue {
			wider(t, x, y)
		}
		f(t, x, y)
	})
	atLeast(t, met[true], 50, "wider tables of ones that have a truth")
	atLeast(t, met[false], 50, "wider tables of ones that have no truth")
}

func notMoreLeft(t *testing.T, x, y tide.Table) {
	t.Helper()
	if a, b := leave(t, x), leave(t, y); len(b) > len(a) {
		t.Errorf("Leave of %v: %v, of %v: %v", x, a, y, b)
	}
}

// P2.9: a greater step.
func TestGreaterStep(t *testing.T) {
	eachWider(t, func(x *tide.Table, rnd *rand.Rand) { x.Step += 1 + rnd.Intn(3) }, notMoreLeft)
}

// P2.11: wider heights.
func TestWiderHeights(t *testing.T) {
	eachWider(t, func(x *tide.Table, rnd *rand.Rand) {
		r := &x.Heights[rnd.Intn(len(x.Heights))]
		r.Lo, r.Hi = within(r.Lo-rnd.Intn(2)), within(r.Hi+rnd.Intn(2))
	}, notMoreLeft)
}

// P2.11: a wider range of a mark.
func TestWiderMark(t *testing.T) {
	eachWider(t, func(x *tide.Table, rnd *rand.Rand) {
		if len(x.Marks) > 0 {
			r := &x.Marks[rnd.Intn(len(x.Marks))].Highest
			r.Lo, r.Hi = within(r.Lo-rnd.Intn(3)), within(r.Hi+rnd.Intn(3))
		}
	}, notMoreLeft)
}

// P2.10: one more mark.
func TestOneMoreMark(t *testing.T) {
	kept, grown := 0, 0
	eachTable(t, func(t *testing.T, x tide.Table, rnd *rand.Rand) {
		if len(x.Marks) == api.MaxTideMarks {
			return
		}
		more := with(x, someMark(rnd, listsOf(x)[0]))
		a, b := leave(t, x), leave(t, more)
		if len(b) < len(a) || len(b) > len(a)+1 {
			t.Errorf("Leave of %v: %v, of %v: %v", x, a, more, b)
		}
		if len(b) > len(a) {
			grown++
		}
		if len(truthsOf(more)) == 0 {
			return
		}
		kept++
		wider(t, more, x)
		eachRowAndHour(x, func(row, hour int) {
			if v := wet(t, x, row, hour); v != may && wet(t, more, row, hour) != v {
				t.Errorf("Wet of %v, %d, %d: %d, but not with one more mark", x, row, hour, v)
			}
		})
	})
	atLeast(t, kept, 100, "tables that have a truth with one more mark")
	atLeast(t, grown, 50, "smallest sets that are longer with one more mark")
}

// shifted returns the table with all heights, levels and marks higher by the
// number, if it is valid.
func shifted(x tide.Table, by int) (tide.Table, bool) {
	x = copied(x)
	for i := range x.Heights {
		x.Heights[i] = moved(x.Heights[i], by)
	}
	for i := range x.Levels {
		x.Levels[i] += by
	}
	for i := range x.Marks {
		x.Marks[i].Highest = moved(x.Marks[i].Highest, by)
	}
	return x, tide.CheckTable(x) == api.OK
}

func moved(r tide.Range, by int) tide.Range { return to(r.Lo+by, r.Hi+by) }

// P2.12: all is higher by the same number.
func TestShifted(t *testing.T) {
	met := 0
	eachTrueTable(t, func(t *testing.T, x tide.Table, rnd *rand.Rand) {
		for _, by := range []int{-5, -1, 1, 5, 20} {
			y, ok := shifted(x, by)
			if !ok {
				continue
			}
			met++
			a := bounds(t, x)
			for hour, r := range bounds(t, y) {
				if r != moved(a[hour], by) {
					t.Errorf("Bounds of %v, %d: %v, but %v when it is higher by %d", x, hour, a[hour], r, by)
				}
			}
			eachRowAndHour(x, func(row, hour int) {
				if wet(t, x, row, hour) != wet(t, y, row, hour) {
					t.Errorf("Wet of %v, %d, %d is another one when it is higher by %d", x, row, hour, by)
				}
			})
			for row := range x.Levels {
				if reach(t, x, row) != reach(t, y, row) {
					t.Errorf("Reach of %v, %d is another one when it is higher by %d", x, row, by)
				}
			}
			eachSpan(x, func(from, to int) {
				if dry(t, x, from, to)+by != dry(t, y, from, to) {
					t.Errorf("Dry of %v, %d, %d is not higher by %d", x, from, to, by)
				}
			})
		}
	})
	atLeast(t, met, 100, "tables that are higher")
}

// P2.13: the hours backwards.
func TestBackwards(t *testing.T) {
	eachTrueTable(t, func(t *testing.T, x tide.Table, rnd *rand.Rand) {
		y := copied(x)
		slices.Reverse(y.Heights)
		for i, m := range y.Marks {
			y.Marks[i].From, y.Marks[i].To = x.Last-m.To, x.Last-m.From
		}
		l := bounds(t, y)
		slices.Reverse(l)
		if !slices.Equal(l, bounds(t, x)) {
			t.Errorf("Bounds of %v are others backwards: %v", x, l)
		}
		eachRowAndHour(x, func(row, hour int) {
			if wet(t, x, row, hour) != wet(t, y, row, x.Last-hour) {
				t.Errorf("Wet of %v, %d, %d is another one backwards", x, row, hour)
			}
		})
		eachSpan(x, func(from, to int) {
			if dry(t, x, from, to) != dry(t, y, x.Last-to, x.Last-from) {
				t.Errorf("Dry of %v, %d, %d is another one backwards", x, from, to)
			}
		})
	})
}

// hasTruth reports what Bounds says of a table.
func hasTruth(t *testing.T, x tide.Table) bool {
	t.Helper()
	_, e := tide.Bounds(x)
	if e != api.OK && e != api.ErrFalse {
		t.Fatalf("Bounds of %v: %v", x, e)
	}
	return e == api.OK
}

// P2.14 and P6: the marks before the first wrong one, and with it.
func TestMarksUpToTheFirstWrongOne(t *testing.T) {
	met := 0
	eachTable(t, func(t *testing.T, x tide.Table, rnd *rand.Rand) {
		n, e := tide.First(x)
		if (e == api.ErrNone) != hasTruth(t, x) {
			t.Errorf("First of %v: %v", x, e)
		}
		if e != api.OK {
			return
		}
		met++
		before, upTo := copied(x), copied(x)
		before.Marks, upTo.Marks = before.Marks[:n], upTo.Marks[:n+1]
		if !hasTruth(t, before) || hasTruth(t, upTo) {
			t.Errorf("First of %v: %d", x, n)
		}
	})
	atLeast(t, met, 100, "tables with a first wrong mark")
}

// P2.15, P5 and P6: no set before the smallest one can be left out.
func TestSmallestSet(t *testing.T) {
	met := 0
	eachTable(t, func(t *testing.T, x tide.Table, rnd *rand.Rand) {
		l := leave(t, x)
		if !hasTruth(t, without(x, l)) {
			t.Errorf("Leave of %v: %v, but there is no truth without it", x, l)
		}
		for _, other := range subsets(len(x.Marks)) {
			if slices.Equal(other, l) {
				break
			}
			met++
			if hasTruth(t, without(x, other)) {
				t.Errorf("Leave of %v: %v, but there is a truth without %v", x, l, other)
			}
		}
	})
	atLeast(t, met, 200, "sets before the smallest one")
}

// P7: marks in any order.
func TestAnyOrder(t *testing.T) {
	eachTable(t, func(t *testing.T, x tide.Table, rnd *rand.Rand) {
		y := copied(x)
		rnd.Shuffle(len(y.Marks), func(i, j int) { y.Marks[i], y.Marks[j] = y.Marks[j], y.Marks[i] })
		if a, b := leave(t, x), leave(t, y); len(a) != len(b) {
			t.Errorf("Leave of %v: %v, of %v: %v", x, a, y, b)
		}
		if hasTruth(t, x) != hasTruth(t, y) {
			t.Errorf("%v and %v", x, y)
		}
		if hasTruth(t, x) {
			wider(t, x, y)
			wider(t, y, x)
			eachRowAndHour(x, func(row, hour int) {
				if wet(t, x, row, hour) != wet(t, y, row, hour) {
					t.Errorf("Wet of %v and %v, %d, %d", x, y, row, hour)
				}
			})
		}
	})
}

// R3: nil and a list without elements.
func TestNilIsEmpty(t *testing.T) {
	a, b := tide.Table{Heights: ranges(3, 4)}, tide.Table{Heights: ranges(3, 4), Levels: []int{}, Marks: []tide.Mark{}}
	for _, x := range []tide.Table{a, b} {
		if l := play(t, x, []int{3}); len(l) != 0 {
			t.Errorf("Play of %v: %v", x, l)
		}
		if l := bounds(t, x); !slices.Equal(l, ranges(3, 4)) {
			t.Errorf("Bounds of %v: %v", x, l)
		}
		if n := dry(t, x, 0, 0); n != 4 {
			t.Errorf("Dry of %v: %d", x, n)
		}
		if l := leave(t, x); len(l) != 0 {
			t.Errorf("Leave of %v: %v", x, l)
		}
		expect(t, finding, x, nil, 0, 0, 0, api.ErrNone)
		expect(t, playing, x, []int{}, 0, 0, 0, api.ErrRange)
		expect(t, playing, x, nil, 0, 0, 0, api.ErrRange)
	}
	for _, x := range []tide.Table{{}, {Heights: []tide.Range{}}} {
		if e := tide.CheckTable(x); e != api.ErrArg {
			t.Errorf("CheckTable of %v: %v", x, e)
		}
	}
}

// R4: arguments are not written to, also not behind their ends.
func TestArgumentsAreKept(t *testing.T) {
	whole := tide.Table{
		Last:    3,
		Heights: ranges(2, 4, 5, 6, 8, 9, 4, 5, 77, 78),
		Step:    4,
		Levels:  []int{5, 3, 8, 77},
		Marks:   []tide.Mark{mark(2, 2, 8, 8), mark(2, 2, 9, 9), mark(1, 3, 9, 9), mark(7, 7, 7, 7)},
	}
	heights := []int{3, 6, 9, 5, 77}
	kept, list := copied(whole), slices.Clone(heights)
	for marks := range 4 {
		x := whole
		x.Heights, x.Levels, x.Marks = x.Heights[:4], x.Levels[:3], x.Marks[:marks]
		tide.CheckTable(x)
		for _, c := range calls() {
			c.do(x, heights[:4], 1, 1, 2)
		}
		tide.ProveTruth(x, heights[:4])
		tide.ProveDry(x, 0, 3, 9)
	}
	if !slices.Equal(whole.Heights, kept.Heights) || !slices.Equal(whole.Levels, kept.Levels) || !slices.Equal(whole.Marks, kept.Marks) || !slices.Equal(heights, list) {
		t.Errorf("%v, %v became %v, %v", kept, list, whole, heights)
	}
}

// R4: results are in memory of their own, also behind their ends.
func TestResultsAreApart(t *testing.T) {
	x, heights := example(mark(2, 2, 8, 8), mark(2, 2, 9, 9)), []int{3, 6, 8, 4}
	wet := play(t, x, heights)
	for row, l := range wet {
		wet[row] = append(l, 77, 77, 77)
	}
	if !equal(wet, [][]int{{1, 2, 77, 77, 77}, {1, 2, 3, 77, 77, 77}, {77, 77, 77}}) {
		t.Errorf("rows of Play share memory: %v", wet)
	}
	left, known := leave(t, x), bounds(t, example())
	left[0], known[0] = 77, to(77, 78)
	wet[0][0] = 77
	y := example(mark(2, 2, 8, 8), mark(2, 2, 9, 9))
	if !slices.Equal(x.Heights, y.Heights) || !slices.Equal(x.Levels, y.Levels) || !slices.Equal(x.Marks, y.Marks) || !slices.Equal(heights, []int{3, 6, 8, 4}) {
		t.Errorf("a result shares memory with an argument: %v, %v", x, heights)
	}
	if l := leave(t, x); !slices.Equal(l, []int{0}) {
		t.Errorf("Leave is kept from call to call: %v", l)
	}
	if l := bounds(t, example()); !slices.Equal(l, ranges(2, 4, 5, 6, 8, 9, 4, 5)) {
		t.Errorf("Bounds is kept from call to call: %v", l)
	}
	if l := play(t, x, heights); !slices.Equal(l[0], []int{1, 2}) {
		t.Errorf("Play is kept from call to call: %v", l)
	}
}
