package row_test

import (
	"math"
	"slices"
	"testing"

	"foreshore/api"
	"foreshore/row"
	"foreshore/tide"
)

// changed returns the beach of the example, after a change.
func changed(f func(b *row.Beach)) row.Beach {
	b := example(2)
	f(&b)
	return b
}

type flawed struct {
	name  string
	beach row.Beach
	want  api.Errno
}

// limited are beaches at the limit and above it.
func limited() []flawed {
	return []flawed{
		{"valid", example(2), api.OK},
		{"no rows", changed(func(b *row.Beach) { b.Rows = nil }), api.OK},
		{"most rows", changed(func(b *row.Beach) { b.Rows = list(4, 0, 2) }), api.OK},
		{"too many rows", changed(func(b *row.Beach) { b.Rows = list(4, 0, 2, 1) }), api.ErrLimit},
		{"too many rows that are not valid", changed(func(b *row.Beach) { b.Rows = list(-1, 77, 0, 0) }), api.ErrLimit},
		{"too many rows, and Hands of -1", changed(func(b *row.Beach) { b.Rows, b.Hands = make([]int, 4), -1 }), api.ErrLimit},
		{"too many rows, and no table", row.Beach{Rows: make([]int, 4)}, api.ErrLimit},
		{"too many rows, and no list", changed(func(b *row.Beach) { b.Rows, b.Table.Step = list(0, 1, 2, 3), 0 }), api.ErrLimit},
		{"too many rows, and no truth", changed(func(b *row.Beach) { b.Rows, b.Table.Marks = list(0, 1, 2, 3), []tide.Mark{mark(0, 0, 9, 9)} }), api.ErrLimit},
	}
}

// ofTheTable are beaches whose table has an error, which counts before others of the
// beach.
func ofTheTable() []flawed {
	false9 := []tide.Mark{mark(0, 0, 9, 9)}
	tooWide := func(b *row.Beach) { b.Table.Heights[0], b.Table.Heights[1] = ranges(0, 99)[0], ranges(0, 99)[0] }
	return []flawed{
		{"no beach", row.Beach{}, api.ErrArg},
		{"too many hours", changed(func(b *row.Beach) { b.Table.Last = 10 }), api.ErrLimit},
		{"most strips", changed(func(b *row.Beach) { b.Table.Levels = make([]int, 6) }), api.OK},
		{"too many strips", changed(func(b *row.Beach) { b.Table.Levels = make([]int, 7) }), api.ErrLimit},
		{"too many marks", changed(func(b *row.Beach) { b.Table.Marks = make([]tide.Mark, 6) }), api.ErrLimit},
		{"more hours than heights", changed(func(b *row.Beach) { b.Table.Last = 4 }), api.ErrArg},
		{"fewer hours than heights", changed(func(b *row.Beach) { b.Table.Last = 2 }), api.ErrArg},
		{"heights turned", changed(func(b *row.Beach) { b.Table.Heights[1] = tide.Range{Lo: 6, Hi: 5} }), api.ErrArg},
		{"a level of 100", changed(func(b *row.Beach) { b.Table.Levels[2] = 100 }), api.ErrArg},
		{"a mark after the last hour", changed(func(b *row.Beach) { b.Table.Marks = []tide.Mark{mark(0, 4, 9, 9)} }), api.ErrArg},
		{"too many lists", changed(tooWide), api.ErrLimit},
		{"no list", changed(func(b *row.Beach) { b.Table.Step = 1 }), api.ErrFail},
		{"no truth", changed(func(b *row.Beach) { b.Table.Marks = false9 }), api.ErrFalse},
		{"no list, and Hands of 5", changed(func(b *row.Beach) { b.Table.Step, b.Hands = 1, 5 }), api.ErrFail},
		{"no truth, and Hands of -1", changed(func(b *row.Beach) { b.Table.Marks, b.Hands = false9, -1 }), api.ErrFalse},
		{"no truth, and a row that is not valid", changed(func(b *row.Beach) { b.Table.Marks, b.Rows = false9, list(5) }), api.ErrFalse},
		{"too many lists, and a strip twice", changed(func(b *row.Beach) { tooWide(b); b.Rows = list(1, 1) }), api.ErrLimit},
		{"too many strips, and Hands of -1", changed(func(b *row.Beach) { b.Table.Levels, b.Hands = make([]int, 7), -1 }), api.ErrLimit},
	}
}

// invalid are beaches that are not valid otherwise, and ones that are just so.
func invalid() []flawed {
	return []flawed{
		{"Hands of -1", changed(func(b *row.Beach) { b.Hands = -1 }), api.ErrArg},
		{"Hands of 0", changed(func(b *row.Beach) { b.Hands = 0 }), api.OK},
		{"Hands of 4", changed(func(b *row.Beach) { b.Hands = 4 }), api.OK},
		{"Hands of 5", changed(func(b *row.Beach) { b.Hands = 5 }), api.ErrArg},
		{"Hands of 5, and no rows", changed(func(b *row.Beach) { b.Hands, b.Rows = 5, nil }), api.ErrArg},
		{"the strip -1", changed(func(b *row.Beach) { b.Rows = list(0, -1) }), api.ErrArg},
		{"the strip 0", changed(func(b *row.Beach) { b.Rows = list(0) }), api.OK},
		{"the strip 4", changed(func(b *row.Beach) { b.Rows = list(4) }), api.OK},
		{"the strip 5", changed(func(b *row.Beach) { b.Rows = list(5) }), api.ErrArg},
		{"a strip twice", changed(func(b *row.Beach) { b.Rows = list(2, 2) }), api.ErrArg},
		{"a strip twice, with another one between", changed(func(b *row.Beach) { b.Rows = list(2, 0, 2) }), api.ErrArg},
		{"a strip twice at the end", changed(func(b *row.Beach) { b.Rows = list(1, 3, 3) }), api.ErrArg},
		{"a strip three times", changed(func(b *row.Beach) { b.Rows = list(3, 3, 3) }), api.ErrArg},
		{"strips turned", changed(func(b *row.Beach) { b.Rows = list(3, 2, 1) }), api.OK},
		{"no strips, and rows", changed(func(b *row.Beach) { b.Table.Levels = nil }), api.ErrArg},
		{"no strips, and no rows", changed(func(b *row.Beach) { b.Table.Levels, b.Rows = nil, nil }), api.OK},
	}
}

// asked is what is asked about a beach.
type asked struct {
	plan    [][]row.Move
	heights []int
}

// call is a call with what it has together with an error.
type call struct {
	name string
	do   func(b row.Beach, a asked) (zero bool, e api.Errno)
}

var (
	playing = call{"Play", func(b row.Beach, a asked) (bool, api.Errno) {
		l, e := row.Play(b, a.plan)
		return l == nil, e
	}}
	wetting = call{"Wet", func(b row.Beach, a asked) (bool, api.Errno) {
		l, e := row.Wet(b, a.plan, a.heights)
		return l == nil, e
	}}
	saving = call{"Safe", func(b row.Beach, a asked) (bool, api.Errno) {
		n, e := row.Safe(b, a.plan)
		return n == 0, e
	}}
	losing = call{"Danger", func(b row.Beach, a asked) (bool, api.Errno) {
		l, e := row.Danger(b, a.plan)
		return l.Hour == 0 && l.Row == 0 && l.Heights == nil, e
	}}
	choosing = call{"Fewest", func(b row.Beach, a asked) (bool, api.Errno) {
		l, n, e := row.Fewest(b)
		return l == nil && n == 0, e
	}}
	lasting = call{"Longest", func(b row.Beach, a asked) (bool, api.Errno) {
		n, e := row.Longest(b)
		return n == 0, e
	}}
	dooming = call{"Doomed", func(b row.Beach, a asked) (bool, api.Errno) {
		l, e := row.Doomed(b)
		return l == nil, e
	}}
)

func withPlan() []call { return []call{playing, wetting, saving, losing} }

func calls() []call { return append(withPlan(), choosing, lasting, dooming) }

// expect does the call, and wants the error, and with it nothing else.
func expect(t *testing.T, c call, b row.Beach, a asked, want api.Errno) {
	t.Helper()
	zero, e := c.do(b, a)
	if e != want {
		t.Errorf("%s of %v, %v: %v, not %v", c.name, b, a, e, want)
	}
	if e != api.OK && !zero {
		t.Errorf("%s of %v, %v: a result with %v", c.name, b, a, e)
	}
}

// expectRange wants that the list is no plan of the beach.
func expectRange(t *testing.T, b row.Beach, plan [][]row.Move) {
	t.Helper()
	var high []int
	for _, r := range b.Table.Heights {
		high = append(high, r.Hi)
	}
	for _, c := range withPlan() {
		expect(t, c, b, asked{plan, high}, api.ErrRange)
	}
	if row.ProvePlan(b, plan, math.MaxInt) || row.ProveLoss(b, plan, row.Loss{Heights: high}) {
		t.Errorf("proved: %v, %v", b, plan)
	}
}

// P10.1, and the row "all" of the errors: each call has the error of the beach, before
// any other one; the proofs are false.
func TestErrorsOfTheBeach(t *testing.T) {
	high := list(4, 6, 9, 5)
	for _, x := range slices.Concat(limited(), ofTheTable(), invalid()) {
		t.Run(x.name, func(t *testing.T) {
			if e := row.CheckBeach(x.beach); e != x.want {
				t.Errorf("CheckBeach of %v: %v, not %v", x.beach, e, x.want)
			}
			if x.want == api.OK {
				for _, c := range []call{playing, wetting, saving, lasting, dooming} {
					expect(t, c, x.beach, asked{make([][]row.Move, 4), high}, api.OK)
				}
				return
			}
			for _, a := range []asked{{}, {plan(nil, nil, nil, nil), high}, {back(), high}, {plan(moves(7, 7)), list(3)}} {
				for _, c := range calls() {
					expect(t, c, x.beach, a, x.want)
				}
				if row.ProvePlan(x.beach, a.plan, 99) || row.ProveLoss(x.beach, a.plan, row.Loss{Hour: 1, Heights: a.heights}) || row.ProveLoss(x.beach, a.plan, row.Loss{}) {
					t.Errorf("proved: %v, %v", x.beach, a)
				}
			}
		})
	}
}

// Play, Wet, Safe and Danger have ErrRange for lists that are no plans.
func TestErrorsOfThePlan(t *testing.T) {
	for _, l := range [][][]row.Move{
		nil, {}, plan(nil, nil, nil), plan(nil, nil, nil, nil, nil), back()[:3], append(back(), nil), make([][]row.Move, 99),
		plan(moves(1, 2, 1, 3, 1, 4), nil, nil, nil), plan(nil, nil, nil, moves(1, 2, 1, 3, 1, 4)), plan(moves(0, 1), nil, nil, nil), plan(nil, nil, nil, moves(0, 1)),
		plan(moves(2, 2), nil, nil, nil), plan(moves(-1, 2), nil, nil, nil), plan(moves(0, -1), nil, nil, nil), plan(moves(1, 3), nil, nil, nil), plan(moves(1, 1), nil, nil, nil),
		plan(moves(1, 2, 1, 3), moves(1, 4), moves(1, 5), nil), plan(moves(math.MaxInt, 2), nil, nil, nil), plan(moves(math.MinInt, 2), nil, nil, nil),
		plan(moves(1, math.MaxInt), nil, nil, nil), plan(moves(1, math.MinInt), nil, nil, nil), plan(moves(1, 1<<32+2), nil, nil, nil), plan(moves(1<<32+1, 2), nil, nil, nil),
		plan(make([]row.Move, 99), nil, nil, nil),
	} {
		expectRange(t, example(2), l)
	}
	// With no hands there is one plan alone.
	expect(t, playing, example(0), asked{plan: still(example(0))}, api.OK)
	expectRange(t, example(0), plan(nil, nil, nil, moves(1, 2)))
	// Without rows nothing can be moved, nowhere else either.
	none := changed(func(b *row.Beach) { b.Rows = nil })
	expectRange(t, none, plan(moves(0, 0), nil, nil, nil))
	expectRange(t, none, plan(moves(0, -2), nil, nil, nil))
	one := changed(func(b *row.Beach) { b.Rows = list(0) })
	expectRange(t, one, plan(moves(1, 0), nil, nil, nil))
	expectRange(t, one, plan(moves(1, -2), nil, nil, nil))
}

// Wet has ErrRange for heights that are no list of the table; it does not ask about
// marks.
func TestErrorsOfTheHeights(t *testing.T) {
	marked := changed(func(b *row.Beach) { b.Table.Marks = []tide.Mark{mark(1, 1, 5, 5)} })
	for _, b := range []row.Beach{example(2), marked} {
		for _, heights := range [][]int{nil, {}, list(3, 6, 8), list(3, 6, 8, 4, 4), list(1, 5, 8, 4), list(5, 6, 8, 4), list(3, 6, 9, 4), list(2, 6, 10, 6), list(3, 6, 8, 1<<32+4), list(math.MinInt, 6, 8, 4), list(3, 6, math.MaxInt, 4), make([]int, 99)} {
			expect(t, wetting, b, asked{back(), heights}, api.ErrRange)
			expect(t, wetting, b, asked{nil, heights}, api.ErrRange)
			if row.ProveLoss(b, still(b), row.Loss{Hour: 1, Heights: heights}) {
				t.Errorf("proved: %v, %v", b, heights)
			}
		}
		expect(t, wetting, b, asked{back(), list(4, 6, 9, 5)}, api.OK)
	}
	if !row.ProveLoss(example(2), still(marked), row.Loss{Hour: 1, Heights: list(4, 6, 9, 5)}) || row.ProveLoss(marked, still(marked), row.Loss{Hour: 1, Heights: list(4, 6, 9, 5)}) || !row.ProveLoss(marked, still(marked), row.Loss{Hour: 1, Heights: list(4, 5, 9, 5)}) {
		t.Error("ProveLoss does not ask about marks")
	}
}

// Danger has ErrNone for a plan that is safe always, Fewest ErrShort if there is none.
func TestErrorsOfNothing(t *testing.T) {
	expect(t, losing, example(2), asked{plan: back()}, api.ErrNone)
	expect(t, losing, example(2), asked{plan: still(example(2))}, api.OK)
	expect(t, losing, example(1), asked{plan: back()}, api.ErrRange)
	for hands, want := range []api.Errno{api.ErrShort, api.ErrShort, api.OK, api.OK, api.OK} {
		expect(t, choosing, example(hands), asked{}, want)
	}
	for _, l := range []row.Loss{{}, {Heights: list(4, 6, 9, 5)}, {Hour: 1, Heights: list(4, 6, 9, 5)}} {
		if row.ProveLoss(example(2), back(), l) {
			t.Errorf("proved: %v", l)
		}
	}
	for _, n := range []int{math.MinInt, -1, 2, 1 << 32, math.MaxInt} {
		for _, l := range []row.Loss{{Hour: n, Heights: list(4, 6, 9, 5)}, {Hour: 1, Row: n, Heights: list(4, 6, 9, 5)}} {
			if row.ProveLoss(example(2), still(example(2)), l) {
				t.Errorf("proved: %v", l)
			}
		}
	}
}

// callAll does all calls of a beach.
func callAll(b row.Beach, a asked, hour, n int) {
	row.CheckBeach(b)
	for _, c := range calls() {
		c.do(b, a)
	}
	row.ProvePlan(b, a.plan, n)
	row.ProveLoss(b, a.plan, row.Loss{Hour: hour, Row: n, Heights: a.heights})
}

// P1: no call panics, whatever the arguments are.
func TestNothingPanics(t *testing.T) {
	odd := []int{math.MinInt, -1 << 32, -2, -1, 0, 1, 2, 3, 4, 5, 6, 10, 64, 1 << 32, math.MaxInt}
	for _, m := range odd {
		for _, n := range odd {
			for _, change := range []func(b *row.Beach){
				func(b *row.Beach) {},
				func(b *row.Beach) { *b = row.Beach{} },
				func(b *row.Beach) { b.Rows = make([]int, 99) },
				func(b *row.Beach) { b.Rows = nil },
				func(b *row.Beach) { b.Rows = list(n) },
				func(b *row.Beach) { b.Rows, b.Hands = list(m, n), m },
				func(b *row.Beach) { b.Rows = list(0, m, n) },
				func(b *row.Beach) { b.Table.Last, b.Hands = m, n },
				func(b *row.Beach) { b.Table.Levels = nil },
				func(b *row.Beach) { b.Table.Heights[1], b.Table.Step = tide.Range{Lo: m, Hi: n}, n },
				func(b *row.Beach) { b.Table.Marks = []tide.Mark{mark(m, n, 0, 99)} },
			} {
				b := changed(change)
				callAll(b, asked{plan(moves(m, n), nil, nil, moves(n, m)), list(3, 6, m, n)}, m, n)
				callAll(b, asked{plan(moves(1, 2), moves(m, 1, 1, n), nil, nil), list(m)}, n, m)
				callAll(b, asked{nil, list(4, 6, 9, 5)}, 1, n)
				callAll(b, asked{still(example(2)), list(4, 6, 9, 5)}, m, n)
			}
		}
	}
}
