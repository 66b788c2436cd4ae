package dry_test

import (
	"math/rand"
	"slices"
	"testing"

	"foreshore/api"
	"foreshore/dry"
	"foreshore/tide"
)

const yes, no, may = dry.Always, dry.Never, dry.Perhaps

func stay(wet, rot int, free ...int) dry.Stay { return dry.Stay{Wet: wet, Rot: rot, Free: free} }

func TestExamples(t *testing.T) {
	y, known := example(), list(3, 6, 8, 4)
	if e := dry.CheckYard(y); e != api.OK {
		t.Errorf("CheckYard: %v", e)
	}
	all := []int{0, 1, 2, 3}
	if l := play(t, y, nil, known); !sameStays(l, []dry.Stay{stay(2, 2, 0), stay(3, 2, 0), stay(0, 4, all...)}) {
		t.Errorf("Play of no order: %v", l)
	}
	if l := play(t, y, list(1, 0), known); !sameStays(l, []dry.Stay{stay(0, 4, all...), stay(0, 4, all...), stay(0, 4, all...)}) {
		t.Errorf("Play of 1, 0: %v", l)
	}
	for _, x := range []struct {
		order []int
		want  int
	}{{nil, 3}, {list(1, 0), 1}, {list(1, 0, 2), 0}} {
		if n, worst := lost(t, y, x.order); n != x.want || rotten(y, x.order, worst) != x.want {
			t.Errorf("Lost of %v: %d, %v", x.order, n, worst)
		}
	}
	if rotten(y, nil, list(2, 6, 9, 5)) != 3 {
		t.Error("the oracle is wrong: of 2, 6, 9, 5")
	}
	if order, n := best(t, y); n != 0 || !dry.ProveOrder(y, order, 0) {
		t.Errorf("Best: %v, %d", order, n)
	}
	if l := verdicts(t, y, list(0, 1, 2), 1); !slices.Equal(l, list(may, may, yes, yes)) {
		t.Errorf("Free of the chair 1: %v", l)
	}
	if r, s := hours(t, y, list(0, 1, 2), 1), hours(t, y, list(0, 1, 2), 0); r != to(2, 4) || s != to(4, 4) {
		t.Errorf("Hours: %v, %v", r, s)
	}
	if n, _ := lost(t, example(0, 1), nil); n != 2 {
		t.Errorf("Lost with the hire 0: %d", n)
	}
	if n, e := dry.First(example(0, 1, 1, 1)); n != 1 || e != api.OK {
		t.Errorf("First: %d, %v", n, e)
	}
	if l := leave(t, example(0, 1, 1, 1)); !slices.Equal(l, list(1)) {
		t.Errorf("Leave: %v", l)
	}
}

// tideOf returns a table of known heights, with one row of the level 5.
func tideOf(heights ...int) tide.Table {
	t := tide.Table{Last: len(heights) - 1, Step: 9, Levels: list(5)}
	for _, n := range heights {
		t.Heights = append(t.Heights, tide.Range{Lo: n, Hi: n})
	}
	return t
}

// alone returns a yard with one chair of known wet hours, given as heights above
// the level 5 or not.
func alone(hours, rot int, heights ...int) dry.Yard {
	return dry.Yard{Table: tideOf(heights...), Hands: 1, Chairs: []dry.Chair{{Hours: hours, Rot: rot}}}
}

// P8.1 by hand, and the eighth example of the document: a chair that was wet in the
// hour 4, and dries for 2 hours, can be hired in the hour 7, but not in the hour 6.
func TestDryByHand(t *testing.T) {
	const o, w = 5, 6
	for _, x := range []struct {
		hours   int
		heights []int
		free    []int
	}{
		{0, list(o, o, o, o, w, o, o, o, o, o), list(0, 1, 2, 3, 5, 6, 7, 8, 9)},
		{1, list(o, o, o, o, w, o, o, o, o, o), list(0, 1, 2, 3, 6, 7, 8, 9)},
		{2, list(o, o, o, o, w, o, o, o, o, o), list(0, 1, 2, 3, 7, 8, 9)},
		{5, list(o, o, o, o, w, o, o, o, o, o), list(0, 1, 2, 3)},
		{5, list(o, o, o, w, o, o, o, o, o, o), list(0, 1, 2, 9)},
		{2, list(w, o, o, o, w, o, o, w, o, o), list(3)},
		{2, list(w, o, o, w, o, o, w, o, o, w), nil},
		{1, list(w, o, o, w, o, o, w, o, o, w), list(2, 5, 8)},
		{0, list(w, o, w, o, w, o, w, o, w, o), list(1, 3, 5, 7, 9)},
		{1, list(w, o, w, o, w, o, w, o, w, o), nil},
		{0, list(w), nil},
		{5, list(o), list(0)},
		{5, list(o, w), list(0)},
		{0, list(w, w, w, w, w, w, w, w, o, o), list(8, 9)},
	} {
		y := alone(x.hours, 9, x.heights...)
		wet := 0
		for _, n := range x.heights {
			wet += n - o
		}
		if l := play(t, y, nil, x.heights); !sameStays(l, []dry.Stay{stay(wet, len(x.heights), x.free...)}) {
			t.Errorf("Play of %v: %v", y, l)
		}
		if l := play(t, y, list(0), x.heights); l[0].Wet != 0 || len(l[0].Free) != len(x.heights) {
			t.Errorf("Play of %v, with the chair brought in: %v", y, l)
		}
	}
}

// P8.1 by hand: when chairs rot, with breaks, in the first hours and in the last
// one; what is rotten is wet, but not hired.
func TestRotByHand(t *testing.T) {
	const o, w = 5, 6
	wave, all := list(w, o, w, w, o, w, w, w, o, o), list(w, w, w, w, w, w, w, w, w, w)
	for _, x := range []struct {
		rot     int
		heights []int
		want    dry.Stay
	}{
		{1, wave, stay(6, 0)}, {2, wave, stay(6, 3, 1)}, {3, wave, stay(6, 7, 1, 4)}, {4, wave, stay(6, 10, 1, 4, 8, 9)}, {9, wave, stay(6, 10, 1, 4, 8, 9)},
		{1, all, stay(10, 0)}, {5, all, stay(10, 4)}, {8, all, stay(10, 7)}, {9, all, stay(10, 8)},
		{9, all[:9], stay(9, 8)}, {9, all[:8], stay(8, 8)}, {1, list(o), stay(0, 1, 0)}, {1, list(w), stay(1, 0)}, {2, list(w), stay(1, 1)},
		{2, list(o, o, w), stay(1, 3, 0, 1)}, {2, list(o, w, w), stay(2, 2, 0)}, {2, list(w, o, w), stay(2, 3, 1)}, {2, list(w, w, o), stay(2, 1)},
		{1, list(o, w, o, o), stay(1, 1, 0)}, {2, list(w, w, o, w, w), stay(4, 1)},
	} {
		y := alone(0, x.rot, x.heights...)
		if l := play(t, y, nil, x.heights); !sameStays(l, []dry.Stay{x.want}) {
			t.Errorf("Play of %v: %v", y, l)
		}
		loss := 0
		if x.want.Rot < len(x.heights) {
			loss = 1
		}
		if n, worst := lost(t, y, nil); n != loss || !slices.Equal(worst, x.heights) {
			t.Errorf("Lost of %v: %d, %v", y, n, worst)
		}
	}
}

// P8.1 by hand: in which hours chairs are brought in, and that they dry on, or stay
// rotten.
func TestBroughtInByHand(t *testing.T) {
	y := alone(1, 3, 6, 6, 6, 6, 6, 6)
	y.Chairs = slices.Repeat(y.Chairs, 5)
	in := []dry.Stay{stay(0, 6, 0, 1, 2, 3, 4, 5), stay(1, 6, 2, 3, 4, 5), stay(2, 6, 3, 4, 5), stay(3, 2), stay(4, 2)}
	out := stay(6, 2)
	for _, x := range []struct {
		hands int
		order []int
		want  []dry.Stay
	}{
		{0, nil, []dry.Stay{out, out, out, out, out}},
		{0, list(4, 3, 2, 1, 0), []dry.Stay{out, out, out, out, out}},
		{1, nil, []dry.Stay{out, out, out, out, out}},
		{1, list(0, 1, 2, 3, 4), []dry.Stay{in[0], in[1], in[2], in[3], in[4]}},
		{1, list(3, 0, 4), []dry.Stay{in[1], out, out, in[0], in[2]}},
		{2, list(3, 0, 4), []dry.Stay{in[0], out, out, in[0], in[1]}},
		{2, list(4, 3, 2, 1, 0), []dry.Stay{in[2], in[1], in[1], in[0], in[0]}},
		{3, list(2, 3, 4, 0), []dry.Stay{in[1], out, in[0], in[0], in[0]}},
		{4, list(1, 0, 2, 3, 4), []dry.Stay{in[0], in[0], in[0], in[0], in[1]}},
		{5, list(1, 0, 2, 3, 4), []dry.Stay{in[0], in[0], in[0], in[0], in[0]}},
		{5, list(1), []dry.Stay{out, in[0], out, out, out}},
	} {
		y.Hands = x.hands
		if l := play(t, y, x.order, list(6, 6, 6, 6, 6, 6)); !sameStays(l, x.want) {
			t.Errorf("Play of %v, %v: %v", y, x.order, l)
		}
	}
	// There are fewer hours than chairs that are brought in one by one.
	short := alone(0, 9, 6, 6)
	short.Chairs = slices.Repeat(short.Chairs, 5)
	if l := play(t, short, list(0, 1, 2, 3, 4), list(6, 6)); !sameStays(l, []dry.Stay{stay(0, 2, 0, 1), stay(1, 2, 1), stay(2, 2), stay(2, 2), stay(2, 2)}) {
		t.Errorf("Play of %v: %v", short, l)
	}
}

// nearHeights returns lists of which one number, or the length, is another one.
func nearHeights(rnd *rand.Rand, heights []int) [][]int {
	out := [][]int{nil, append(slices.Clone(heights), 0), append(slices.Clone(heights), heights...), heights[1:], heights[:len(heights)-1]}
	for _, by := range []int{-99, -2, -1, 1, 2, 99, 1 << 32} {
		other := slices.Clone(heights)
		other[rnd.Intn(len(other))] += by
		out = append(out, other)
	}
	return out
}

// P8.1: Play and ProveTruth, of lists of the table and of ones that are near them.
func TestPlay(t *testing.T) {
	met := map[api.Errno]int{}
	proved := map[bool]int{}
	eachYard(t, func(t *testing.T, y dry.Yard, rnd *rand.Rand) {
		truths := truthsOf(y)
		for _, heights := range combinations(y.Table.Heights) {
			order := someOrder(rnd, len(y.Chairs))
			others := [][]int{heights}
			if rnd.Intn(10) == 0 {
				others = append(others, nearHeights(rnd, heights)...)
			}
			for _, l := range others {
				is := slices.ContainsFunc(truths, func(truth []int) bool { return slices.Equal(truth, l) })
				proved[is]++
				if dry.ProveTruth(y, l) != is {
					t.Errorf("ProveTruth of %v, %v is not %v", y, l, is)
				}
				want := api.ErrRange
				if isList(y.Table, l) {
					want = api.OK
				}
				met[want]++
				expect(t, playing, y, asked{order: order, heights: l}, want)
				if want == api.OK && !sameStays(play(t, y, order, l), staysOf(y, order, l)) {
					t.Errorf("Play of %v, %v, %v: %v", y, order, l, play(t, y, order, l))
				}
			}
		}
	})
	atLeast(t, met[api.OK], 5000, "results")
	atLeast(t, met[api.ErrRange], 5000, "errors")
	atLeast(t, proved[true], 2000, "truths")
	atLeast(t, proved[false], 2000, "lists that are none")
}

// P8.2: Free and Hours.
func TestFreeAndHours(t *testing.T) {
	met, wide := map[int]int{}, 0
	eachTrue(t, func(t *testing.T, y dry.Yard, truths [][]int, rnd *rand.Rand) {
		for _, order := range [][]int{nil, y.Order, someOrder(rnd, len(y.Chairs)), rnd.Perm(len(y.Chairs))} {
			for chair := range y.Chairs {
				for hour, v := range verdicts(t, y, order, chair) {
					met[v]++
					if want := verdictOf(y, truths, order, chair, hour); v != want {
						t.Errorf("Free of %v, %v, %d, %d: %d, not %d", y, order, chair, hour, v, want)
					}
				}
				r, want := hours(t, y, order, chair), hoursOf(y, truths, order, chair)
				if r != want {
					t.Errorf("Hours of %v, %v, %d: %v, not %v", y, order, chair, r, want)
				}
				if r.Lo < r.Hi {
					wide++
				}
			}
		}
	})
	for _, v := range list(yes, no, may) {
		atLeast(t, met[v], 1000, "verdicts of a kind")
	}
	atLeast(t, wide, 500, "ranges of hours")
}

// P8.3: Lost, and ProveOrder of all orders.
func TestLost(t *testing.T) {
	met := map[int]int{}
	eachTrue(t, func(t *testing.T, y dry.Yard, truths [][]int, rnd *rand.Rand) {
		for _, order := range allOrders(len(y.Chairs)) {
			if rnd.Intn(8) > 0 && len(order) > 2 {
				continue
			}
			want := lossOf(y, truths, order)
			met[want]++
			n, worst := lost(t, y, order)
			if n != want || !dry.ProveTruth(y, worst) || rotten(y, order, worst) != want {
				t.Errorf("Lost of %v, %v: %d, %v, not %d", y, order, n, worst, want)
			}
			if !dry.ProveOrder(y, order, n) || !dry.ProveOrder(y, order, n+1) || dry.ProveOrder(y, order, n-1) {
				t.Errorf("ProveOrder of %v, %v, %d", y, order, n)
			}
		}
	})
	for loss := range 4 {
		atLeast(t, met[loss], 100, "losses of a kind")
	}
}

// P8.4: Best.
func TestBest(t *testing.T) {
	met := map[int]int{}
	better := 0
	eachTrue(t, func(t *testing.T, y dry.Yard, truths [][]int, rnd *rand.Rand) {
		want := leastLossOf(y, truths)
		met[want]++
		order, n := best(t, y)
		if n != want || !isOrder(order, len(y.Chairs)) || lossOf(y, truths, order) != want || !dry.ProveOrder(y, order, want) {
			t.Errorf("Best of %v: %v, %d, not %d", y, order, n, want)
		}
		if lossOf(y, truths, list()) > want {
			better++
		}
	})
	for loss := range 3 {
		atLeast(t, met[loss], 12, "least losses of a kind")
	}
	atLeast(t, better, 80, "orders that are better than none")
}

func isOrder(order []int, chairs int) bool {
	return slices.ContainsFunc(allOrders(chairs), func(l []int) bool { return slices.Equal(l, order) })
}

// P8.4 by hand: the first chairs of the order are the ones that rot first, and not
// those whose number is smaller.
func TestBestByHand(t *testing.T) {
	y := dry.Yard{Table: tideOf(6, 6, 6, 6), Hands: 1, Chairs: []dry.Chair{{Rot: 4}, {Rot: 2}, {Rot: 3}, {Rot: 1}}}
	if order, n := best(t, y); n != 0 || !slices.Equal(order, list(3, 1, 2, 0)) && !slices.Equal(order, list(3, 1, 2)) {
		t.Errorf("Best of %v: %v, %d", y, order, n)
	}
	for _, x := range []struct{ hands, rot, want int }{{0, 1, 5}, {1, 1, 4}, {2, 1, 3}, {3, 1, 2}, {4, 1, 1}, {5, 1, 0}, {1, 2, 3}, {2, 2, 1}, {3, 2, 0}, {1, 4, 1}, {1, 5, 0}, {0, 5, 0}} {
		y.Hands, y.Chairs = x.hands, slices.Repeat([]dry.Chair{{Rot: x.rot}}, 5)
		if order, n := best(t, y); n != x.want || !dry.ProveOrder(y, order, n) {
			t.Errorf("Best of %v: %v, %d", y, order, n)
		}
	}
}

// Hires are not asked again if another order is asked about.
func TestHiresAreOfTheOwnOrder(t *testing.T) {
	wet := alone(0, 9, 6)
	wet.Hires = hires(0, 0)
	in := copied(wet)
	in.Order = list(0)
	for _, order := range [][]int{nil, list(0)} {
		expect(t, losing, wet, asked{order: order}, api.ErrFalse)
		expect(t, hiring, wet, asked{order: order}, api.ErrFalse)
		want := no
		if len(order) > 0 {
			want = yes
		}
		if v := free(t, in, order, 0, 0); v != want {
			t.Errorf("Free of %v, %v: %d", in, order, v)
		}
	}
	if dry.ProveTruth(wet, list(6)) || !dry.ProveTruth(in, list(6)) {
		t.Error("ProveTruth does not ask by the yard's order")
	}
}

// P8.5 by hand: hires that are wrong alone, and only together; several sets of the
// same length.
func TestFirstAndLeaveByHand(t *testing.T) {
	// Either the hour 0 or the hour 1 is wet in the row 0, and never both.
	either := dry.Yard{Table: tide.Table{Last: 1, Heights: ranges(5, 6, 5, 6), Step: 1, Levels: list(5, 9), Marks: []tide.Mark{mark(0, 1, 6, 6)}}, Chairs: []dry.Chair{{Rot: 9}, {Row: 1, Rot: 9}}}
	for _, x := range []struct {
		y     dry.Yard
		hires []dry.Hire
		first int
		e     api.Errno
		leave []int
	}{
		{example(), nil, 0, api.ErrNone, nil},
		{example(), hires(0, 0, 0, 1, 2, 0, 2, 3, 1, 0), 0, api.ErrNone, nil},
		{example(), hires(0, 2), 0, api.OK, list(0)},
		{example(), hires(0, 1, 0, 2), 1, api.OK, list(1)},
		{example(), hires(0, 3, 1, 3, 1, 2, 0, 2, 1, 1), 0, api.OK, list(0, 1, 2, 3, 4)},
		{example(), hires(2, 3, 0, 3, 0, 1, 1, 3, 2, 2), 1, api.OK, list(1, 3)},
		{either, hires(0, 0), 0, api.ErrNone, nil},
		{either, hires(0, 1, 1, 0, 1, 1), 0, api.ErrNone, nil},
		{either, hires(0, 0, 0, 1), 1, api.OK, list(0)},
		{either, hires(0, 0, 0, 1, 0, 1), 1, api.OK, list(0)},
		{either, hires(0, 0, 0, 1, 0, 0), 1, api.OK, list(1)},
		{either, hires(0, 1, 0, 1, 1, 0, 0, 0, 0, 0), 3, api.OK, list(0, 1)},
		{either, hires(0, 1, 0, 0, 0, 0, 0, 1, 1, 1), 1, api.OK, list(0, 3)},
		{either, hires(0, 1, 0, 0, 0, 0, 0, 1, 0, 0), 1, api.OK, list(0, 3)},
		{either, hires(1, 1, 0, 0, 0, 0, 0, 0, 0, 1), 4, api.OK, list(4)},
	} {
		x.y.Hires = x.hires
		if n, e := dry.First(x.y); n != x.first || e != x.e {
			t.Errorf("First of %v: %d, %v", x.y, n, e)
		}
		if l := leave(t, x.y); !slices.Equal(l, x.leave) {
			t.Errorf("Leave of %v: %v", x.y, l)
		}
	}
}

// P8.5: First and Leave.
func TestFirstAndLeave(t *testing.T) {
	met := map[int]int{}
	eachYard(t, func(t *testing.T, y dry.Yard, rnd *rand.Rand) {
		n, e := dry.First(y)
		if want := firstOf(y); want < 0 && (n != 0 || e != api.ErrNone) || want >= 0 && (n != want || e != api.OK) {
			t.Errorf("First of %v: %d, %v, not %d", y, n, e, want)
		}
		l, want := leave(t, y), leaveOf(y)
		met[len(want)]++
		if !slices.Equal(l, want) {
			t.Errorf("Leave of %v: %v, not %v", y, l, want)
		}
	})
	for many := range 4 {
		atLeast(t, met[many], 10, "smallest sets of a length")
	}
}
