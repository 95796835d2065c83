package stock_test

import (
	"math"
	"math/big"
	"math/rand"
	"slices"
	"testing"

	"tallage/api"
	"tallage/stock"
)

// in is a receipt, out an issue.
func in(count, cost int) api.Move { return api.Move{Count: count, Cost: cost} }

func out(count int) api.Move { return api.Move{Count: -count} }

func lotOf(count, cost int) api.Lot { return api.Lot{Count: count, Cost: cost} }

// most is the greatest receipt.
var most = in(1000000, 1000000000000)

func times(n int, m api.Move) []api.Move { return slices.Repeat([]api.Move{m}, n) }

func join(l ...[]api.Move) []api.Move { return slices.Concat(l...) }

// short is the list, or its beginning if it is long.
func short(l []api.Move) []api.Move { return l[:min(len(l), 8)] }

func testFifo(t *testing.T, l []api.Move, costs []int, lots []api.Lot, want api.Errno) {
	t.Helper()
	if x, y, err := stock.Fifo(l); !slices.Equal(x, costs) || !slices.Equal(y, lots) || err != want {
		t.Errorf("Fifo(%d moves: %v) = %v, %v, %d; want %v, %v, %d", len(l), short(l), x, y, err, costs, lots, want)
	}
}

func testMean(t *testing.T, l []api.Move, costs []int, lot api.Lot, want api.Errno) {
	t.Helper()
	if x, y, err := stock.Mean(l); !slices.Equal(x, costs) || y != lot || err != want {
		t.Errorf("Mean(%d moves: %v) = %v, %v, %d; want %v, %v, %d", len(l), short(l), x, y, err, costs, lot, want)
	}
}

// P44: the order of the lots, lots that are used up and lots that are not, the
// cost that remains with a lot, and the bounds.
func TestFifo(t *testing.T) {
	for _, x := range []struct {
		l     []api.Move
		costs []int
		lots  []api.Lot
	}{
		{nil, nil, nil},
		{[]api.Move{}, nil, nil},
		{[]api.Move{in(3, 10)}, nil, []api.Lot{lotOf(3, 10)}},
		// Every receipt is a lot, also one like the preceding one.
		{[]api.Move{in(3, 10), in(3, 10), in(1, 0)}, nil, []api.Lot{lotOf(3, 10), lotOf(3, 10), lotOf(1, 0)}},
		{[]api.Move{in(2, 10), in(2, 31), out(3)}, []int{25}, []api.Lot{lotOf(1, 16)}},
		{[]api.Move{in(2, 10), in(2, 31), out(3), out(1)}, []int{25, 16}, nil},
		// The second lot costs less, and the third one nothing.
		{[]api.Move{in(2, 50), in(2, 10), in(2, 0), out(1)}, []int{25}, []api.Lot{lotOf(1, 25), lotOf(2, 10), lotOf(2, 0)}},
		{[]api.Move{in(2, 50), in(2, 10), in(2, 0), out(2)}, []int{50}, []api.Lot{lotOf(2, 10), lotOf(2, 0)}},
		{[]api.Move{in(2, 50), in(2, 10), in(2, 0), out(3)}, []int{55}, []api.Lot{lotOf(1, 5), lotOf(2, 0)}},
		{[]api.Move{in(2, 50), in(2, 10), in(2, 0), out(5)}, []int{60}, []api.Lot{lotOf(1, 0)}},
		{[]api.Move{in(2, 50), in(2, 10), in(2, 0), out(6)}, []int{60}, nil},
		// An issue of free pieces has a cost, which is 0.
		{[]api.Move{in(5, 0), out(2), out(3)}, []int{0, 0}, nil},
		// Pieces that come later are issued later.
		{[]api.Move{in(2, 50), out(1), in(2, 10), out(2), in(1, 7)}, []int{25, 30}, []api.Lot{lotOf(1, 5), lotOf(1, 7)}},
		{[]api.Move{in(1, 4), out(1), in(1, 6), out(1), in(1, 8)}, []int{4, 6}, []api.Lot{lotOf(1, 8)}},
		// Rounded down, of what remains: 10/3 is 3, and 7/2 is 3.
		{[]api.Move{in(3, 10), out(1)}, []int{3}, []api.Lot{lotOf(2, 7)}},
		{[]api.Move{in(3, 10), out(2)}, []int{6}, []api.Lot{lotOf(1, 4)}},
		{[]api.Move{in(3, 10), out(1), out(1), out(1)}, []int{3, 3, 4}, nil},
		{[]api.Move{in(3, 11), out(1), out(1), out(1)}, []int{3, 4, 4}, nil},
		// Of the lot as it remains, and not as it came: 18*2/9 is 4, and 19*2/10
		// would be 3.
		{[]api.Move{in(10, 19), out(1), out(2)}, []int{1, 4}, []api.Lot{lotOf(7, 14)}},
		{[]api.Move{in(4, 7), out(1), out(1), out(1)}, []int{1, 2, 2}, []api.Lot{lotOf(1, 2)}},
		// The whole cost of one lot, and a part of the next one, rounded down.
		{[]api.Move{in(2, 1), out(1), in(2, 1), out(2)}, []int{0, 1}, []api.Lot{lotOf(1, 1)}},
		{[]api.Move{in(1, 1), in(2, 1), in(3, 2), out(2), out(2)}, []int{1, 1}, []api.Lot{lotOf(2, 2)}},
		// The bounds.
		{[]api.Move{most, out(1000000)}, []int{1000000000000}, nil},
		{[]api.Move{most, out(999999)}, []int{999999000000}, []api.Lot{lotOf(1, 1000000)}},
		{[]api.Move{in(1000000, 999999999999), out(999999)}, []int{999998999999}, []api.Lot{lotOf(1, 1000000)}},
		{[]api.Move{in(1000000, 999999999999), out(1)}, []int{999999}, []api.Lot{lotOf(999999, 999999000000)}},
		{[]api.Move{in(999999, 1000000000000), out(999998)}, []int{999998999998}, []api.Lot{lotOf(1, 1000002)}},
		{times(40, in(1, 1000000000000)), nil, slices.Repeat([]api.Lot{lotOf(1, 1000000000000)}, 40)},
		{join(times(39, in(1, 1000000000000)), []api.Move{out(39)}), []int{39000000000000}, nil},
		{join(times(20, in(2, 5)), times(20, out(2))), slices.Repeat([]int{5}, 20), nil},
		{join(times(1, in(40, 40)), times(39, out(1))), slices.Repeat([]int{1}, 39), []api.Lot{lotOf(1, 1)}},
	} {
		testFifo(t, x.l, x.costs, x.lots, api.OK)
	}
}

// P45: one lot, costs rounded with the mode Near, what is left after it, and
// the bounds, where the cost of the lot times the pieces is beyond 64 bits.
func TestMean(t *testing.T) {
	for _, x := range []struct {
		l     []api.Move
		costs []int
		lot   api.Lot
	}{
		{nil, nil, api.Lot{}},
		{[]api.Move{}, nil, api.Lot{}},
		{[]api.Move{in(3, 10)}, nil, lotOf(3, 10)},
		{[]api.Move{in(3, 10), in(3, 10), in(1, 0)}, nil, lotOf(7, 20)},
		{[]api.Move{in(2, 10), in(2, 31), out(3)}, []int{31}, lotOf(1, 10)},
		{[]api.Move{in(2, 10), in(2, 31), out(3), out(1)}, []int{31, 10}, api.Lot{}},
		{[]api.Move{in(2, 10), in(2, 31), out(4)}, []int{41}, api.Lot{}},
		// The last lot counts as much as the first one.
		{[]api.Move{in(2, 50), in(2, 10), in(2, 0), out(1)}, []int{10}, lotOf(5, 50)},
		{[]api.Move{in(2, 50), out(1), in(2, 11), out(2), in(1, 7)}, []int{25, 24}, lotOf(2, 19)},
		{[]api.Move{in(5, 0), out(2), out(3)}, []int{0, 0}, api.Lot{}},
		{[]api.Move{in(1, 4), out(1), in(1, 6), out(1), in(1, 8)}, []int{4, 6}, lotOf(1, 8)},
		// Below a half, a half, and above it.
		{[]api.Move{in(3, 10), out(1)}, []int{3}, lotOf(2, 7)},
		{[]api.Move{in(3, 11), out(1)}, []int{4}, lotOf(2, 7)},
		{[]api.Move{in(2, 5), out(1)}, []int{3}, lotOf(1, 2)},
		{[]api.Move{in(2, 7), out(1)}, []int{4}, lotOf(1, 3)},
		{[]api.Move{in(2, 1), out(1)}, []int{1}, lotOf(1, 0)},
		{[]api.Move{in(6, 1), out(3)}, []int{1}, lotOf(3, 0)},
		{[]api.Move{in(5, 1), out(2)}, []int{0}, lotOf(3, 1)},
		{[]api.Move{in(5, 1), out(3)}, []int{1}, lotOf(2, 0)},
		{[]api.Move{in(3, 10), out(1), out(1), out(1)}, []int{3, 4, 3}, api.Lot{}},
		// The bounds.
		{[]api.Move{most, out(1000000)}, []int{1000000000000}, api.Lot{}},
		{[]api.Move{most, out(999999)}, []int{999999000000}, lotOf(1, 1000000)},
		{join(times(39, most), []api.Move{out(1000000)}), []int{1000000000000}, lotOf(38000000, 38000000000000)},
		{join(times(38, most), []api.Move{in(1, 0), out(1000000)}), []int{999999973684}, lotOf(37000001, 37000000026316)},
		{join(times(39, in(1, 1000000000000)), []api.Move{out(38)}), []int{38000000000000}, lotOf(1, 1000000000000)},
		{join(times(40, most)), nil, lotOf(40000000, 40000000000000)},
		{join(times(20, most), times(20, out(1000000))), slices.Repeat([]int{1000000000000}, 20), api.Lot{}},
	} {
		testMean(t, x.l, x.costs, x.lot, api.OK)
	}
}

// share is cost times part divided by whole, rounded down, in numbers without
// bounds.
func share(cost, part, whole int) int {
	n := new(big.Int).Mul(big.NewInt(int64(cost)), big.NewInt(int64(part)))
	return int(n.Div(n, big.NewInt(int64(whole))).Int64())
}

// fifo follows P44 for valid moves of which none issues too much.
func fifo(l []api.Move) ([]int, []api.Lot) {
	costs, lots := []int{}, []api.Lot{}
	for _, m := range l {
		if m.Count > 0 {
			lots = append(lots, api.Lot(m))
			continue
		}
		cost := 0
		for pieces := -m.Count; pieces > 0; {
			oldest := lots[0]
			if oldest.Count <= pieces {
				cost += oldest.Cost
				pieces -= oldest.Count
				lots = slices.Delete(lots, 0, 1)
				continue
			}
			part := share(oldest.Cost, pieces, oldest.Count)
			cost += part
			lots[0] = api.Lot{Count: oldest.Count - pieces, Cost: oldest.Cost - part}
			pieces = 0
		}
		costs = append(costs, cost)
	}
	return costs, lots
}

// mean follows P45 for the same moves.
func mean(l []api.Move) ([]int, api.Lot) {
	costs, lot := []int{}, api.Lot{}
	for _, m := range l {
		cost := -m.Cost
		if m.Count < 0 {
			half := share(2*lot.Cost, -m.Count, lot.Count)
			cost = half/2 + half%2
			costs = append(costs, cost)
		}
		lot.Count += m.Count
		lot.Cost -= cost
	}
	return costs, lot
}

// moves are n valid moves of which none issues too much: small numbers, great
// ones, or both.
func moves(r *rand.Rand, n int) []api.Move {
	l := make([]api.Move, n)
	stocked := 0
	pieces := []int{3, 20, 1000000}[r.Intn(3)]
	cost := []int{5, 100, 1000000000000}[r.Intn(3)]
	issues := r.Float64()
	for i := range l {
		if stocked > 0 && r.Float64() < issues {
			n := min(stocked, 1000000)
			if r.Intn(3) > 0 {
				n = 1 + r.Intn(n)
			}
			l[i] = out(n)
		} else {
			l[i] = in(1+r.Intn(pieces), r.Intn(cost+1))
			if r.Intn(8) == 0 {
				l[i] = most
			}
		}
		stocked += l[i].Count
	}
	return l
}

func total(l []int) int {
	n := 0
	for _, x := range l {
		n += x
	}
	return n
}

// P44, P45: the rules on random moves, and what is issued and what remains sum
// to what came.
func TestDefinition(t *testing.T) {
	r := rand.New(rand.NewSource(16))
	for range 20000 {
		l := moves(r, r.Intn(api.MaxLots+1))
		count, cost := 0, 0
		for _, m := range l {
			count += m.Count
			cost += m.Cost
		}
		costs, lots, err := stock.Fifo(l)
		wantCosts, wantLots := fifo(l)
		if !slices.Equal(costs, wantCosts) || !slices.Equal(lots, wantLots) || err != api.OK {
			t.Fatalf("Fifo(%v) = %v, %v, %d; want %v, %v", l, costs, lots, err, wantCosts, wantLots)
		}
		whole := api.Lot{Cost: total(costs)}
		for _, x := range lots {
			whole.Count += x.Count
			whole.Cost += x.Cost
		}
		if whole.Count != count || whole.Cost != cost {
			t.Fatalf("Fifo(%v) = %v, %v: %v; want %d, %d", l, costs, lots, whole, count, cost)
		}
		costs, lot, err := stock.Mean(l)
		wantCosts, wantLot := mean(l)
		if !slices.Equal(costs, wantCosts) || lot != wantLot || err != api.OK {
			t.Fatalf("Mean(%v) = %v, %v, %d; want %v, %v", l, costs, lot, err, wantCosts, wantLot)
		}
		if lot.Count != count || lot.Cost+total(costs) != cost {
			t.Fatalf("Mean(%v) = %v, %v; want %d, %d", l, costs, lot, count, cost)
		}
	}
}

// testError: both methods have the error, and no other result.
func testError(t *testing.T, l []api.Move, want api.Errno) {
	t.Helper()
	testFifo(t, l, nil, nil, want)
	testMean(t, l, nil, api.Lot{}, want)
}

// P44, P45: numbers out of their bounds, at every place of a list.
func TestMoveErrors(t *testing.T) {
	for _, x := range []struct {
		m    api.Move
		want api.Errno
	}{
		{in(0, 0), api.ErrArg},
		{in(0, 1), api.ErrArg},
		{in(0, -1), api.ErrArg},
		{in(1000001, 0), api.ErrArg},
		{in(1000001, 5), api.ErrArg},
		{in(math.MaxInt, 5), api.ErrArg},
		{in(-1000001, 0), api.ErrArg},
		{in(math.MinInt, 0), api.ErrArg},
		{in(math.MinInt, 5), api.ErrArg},
		{in(1, -1), api.ErrArg},
		{in(1, 1000000000001), api.ErrArg},
		{in(1, math.MinInt), api.ErrArg},
		{in(1, math.MaxInt), api.ErrArg},
		{in(1000000, 1000000000001), api.ErrArg},
		// ErrArg comes before ErrForm.
		{in(-1, -1), api.ErrArg},
		{in(-1, 1000000000001), api.ErrArg},
		{in(-1, math.MinInt), api.ErrArg},
		{in(-1, math.MaxInt), api.ErrArg},
		{in(-1000001, 1), api.ErrArg},
		{in(-1, 1), api.ErrForm},
		{in(-1, 1000000000000), api.ErrForm},
		{in(-1000000, 1), api.ErrForm},
	} {
		testError(t, []api.Move{x.m}, x.want)
		for i := range api.MaxLots {
			l := times(api.MaxLots, in(2, 10))
			l[i] = x.m
			testError(t, l, x.want)
		}
		testError(t, []api.Move{in(5, 5), out(1), x.m, out(1)}, x.want)
		// An error of a move comes before ErrShort of an earlier one.
		testError(t, []api.Move{out(1), x.m}, x.want)
		testError(t, []api.Move{in(1, 1), out(2), in(1, 1), x.m}, x.want)
		// The number of moves comes before the error of a move.
		testError(t, times(41, x.m), api.ErrLarge)
		testError(t, join([]api.Move{x.m}, times(40, in(1, 1))), api.ErrLarge)
	}
	// The first move that has an error determines it.
	testError(t, []api.Move{in(-1, 1), in(0, 0)}, api.ErrForm)
	testError(t, []api.Move{in(0, 0), in(-1, 1)}, api.ErrArg)
	testError(t, []api.Move{in(1, 1), in(-1, 1), in(1, -1)}, api.ErrForm)
	testError(t, []api.Move{in(1, 1), in(1, -1), in(-1, 1)}, api.ErrArg)
}

// P44, P45: 40 moves are not too many.
func TestLarge(t *testing.T) {
	testError(t, make([]api.Move, 41), api.ErrLarge)
	testError(t, make([]api.Move, 1000), api.ErrLarge)
	testError(t, times(41, in(1, 1)), api.ErrLarge)
	testError(t, times(41, out(1)), api.ErrLarge)
	testFifo(t, times(40, in(1, 1)), nil, slices.Repeat([]api.Lot{lotOf(1, 1)}, 40), api.OK)
	testMean(t, times(40, in(1, 1)), nil, lotOf(40, 40), api.OK)
	testError(t, make([]api.Move, 40), api.ErrArg)
	testError(t, times(40, out(1)), api.ErrShort)
}

// P44, P45: too much is issued at once, in parts, and before more pieces come.
func TestShort(t *testing.T) {
	for _, l := range [][]api.Move{
		{out(1)},
		{out(1000000)},
		{out(1), in(1, 5)},
		{out(1), in(5, 5), out(1)},
		{in(1, 5), out(2)},
		{in(1, 5), out(2), in(1, 5)},
		{in(1, 5), out(1), out(1)},
		{in(1, 5), out(1), out(1), in(10, 5), out(3)},
		{in(2, 5), in(2, 7), out(5)},
		{in(2, 5), in(2, 7), out(3), out(2)},
		{in(2, 5), out(1), in(2, 7), out(4), in(2, 7)},
		{in(999999, 5), out(1000000)},
		{in(5, 0), out(6)},
		join(times(38, in(1, 1)), []api.Move{out(38), out(1)}),
		join(times(39, in(1, 1)), []api.Move{out(40)}),
		join(times(19, most), times(20, out(1000000))),
		join(times(3, most), []api.Move{out(1), out(999999), out(1000000), out(999999), out(2), in(1, 1)}),
	} {
		testError(t, l, api.ErrShort)
	}
}

// P44, P45: on random moves, an issue that takes all is right, and one that
// takes one piece more is too much, whatever follows it.
func TestShortRandom(t *testing.T) {
	r := rand.New(rand.NewSource(44))
	for range 3000 {
		l := moves(r, r.Intn(30))
		count := 0
		for _, m := range l {
			count += m.Count
		}
		if count >= 1000000 {
			continue
		}
		after := moves(r, r.Intn(10))
		testError(t, join(l, []api.Move{out(count + 1)}, after), api.ErrShort)
		if count == 0 {
			continue
		}
		all := join(l, []api.Move{out(count)})
		if _, lots, err := stock.Fifo(all); len(lots) != 0 || err != api.OK {
			t.Errorf("Fifo(%v) leaves %v, %d", all, lots, err)
		}
		if _, lot, err := stock.Mean(all); lot != (api.Lot{}) || err != api.OK {
			t.Errorf("Mean(%v) leaves %v, %d", all, lot, err)
		}
	}
}

// P2: the argument stays as it is, with its spare capacity, and neither it nor
// another result shares memory with a result.
func TestMemory(t *testing.T) {
	whole := []api.Move{in(2, 10), in(2, 31), in(3, 9), out(1), out(2), in(1, 1), out(7)}
	kept := slices.Clone(whole)
	costs, lots := []int{5, 20}, []api.Lot{lotOf(1, 16), lotOf(3, 9), lotOf(1, 1)}
	a, b, _ := stock.Fifo(whole[:6])
	spoil(a, -7)
	if !slices.Equal(b, lots) {
		t.Error(b)
	}
	spoil(b, lotOf(-7, -7))
	c, d, _ := stock.Fifo(whole[:6])
	spoil(d, lotOf(-7, -7))
	if !slices.Equal(c, costs) || !slices.Equal(whole, kept) {
		t.Error(c, whole)
	}
	e, lot, _ := stock.Mean(whole[:6])
	spoil(e, -7)
	f, _, _ := stock.Mean(whole[:6])
	if !slices.Equal(c, costs) || !slices.Equal(f, []int{7, 14}) || lot != (lotOf(5, 30)) || !slices.Equal(whole, kept) {
		t.Error(c, f, lot, whole)
	}
}

// spoil overwrites a list with its spare capacity.
func spoil[T any](l []T, x T) {
	l = l[:cap(l)]
	for i := range l {
		l[i] = x
	}
}
