package tie_test

import (
	"math"
	"math/rand"
	"slices"
	"testing"

	"tallage/api"
	"tallage/tie"
)

const most = 1000000000000

func item(day, amount int) api.Item { return api.Item{Day: day, Amount: amount} }

func times(n int, x api.Item) []api.Item { return slices.Repeat([]api.Item{x}, n) }

// short is the list, or its beginning if it is long.
func short(l []api.Item) []api.Item { return l[:min(len(l), 8)] }

func testTie(t *testing.T, a, b []api.Item, within int, ties []int, want api.Errno) {
	t.Helper()
	if x, err := tie.Tie(a, b, within); !slices.Equal(x, ties) || err != want {
		t.Errorf("Tie(%d items: %v, %d items: %v, %d) = %v, %d; want %v, %d", len(a), short(a), len(b), short(b), within, x, err, ties, want)
	}
}

// up are the numbers from 0 to n-1.
func up(n int) []int {
	l := make([]int, n)
	for i := range l {
		l[i] = i
	}
	return l
}

// P49: the order of both lists, equal days, amounts that differ, distances at
// the bound and beyond it, items that are taken already, and the limits.
func TestTie(t *testing.T) {
	for _, x := range []struct {
		a, b   []api.Item
		within int
		ties   []int
	}{
		{nil, nil, 0, nil},
		{[]api.Item{}, []api.Item{}, 0, nil},
		{nil, []api.Item{item(3, 5)}, 0, nil},
		{[]api.Item{item(3, 5)}, nil, 0, []int{-1}},
		{[]api.Item{item(3, 5), item(0, 1)}, nil, 292193, []int{-1, -1}},
		{[]api.Item{item(3, 5)}, []api.Item{item(3, 5)}, 0, []int{0}},
		{[]api.Item{item(3, 5)}, []api.Item{item(3, 6)}, 292193, []int{-1}},
		{[]api.Item{item(3, 5)}, []api.Item{item(3, 4)}, 292193, []int{-1}},
		// Days before and after it.
		{[]api.Item{item(3, 5)}, []api.Item{item(4, 5)}, 0, []int{-1}},
		{[]api.Item{item(3, 5)}, []api.Item{item(2, 5)}, 0, []int{-1}},
		{[]api.Item{item(3, 5)}, []api.Item{item(5, 5)}, 1, []int{-1}},
		{[]api.Item{item(3, 5)}, []api.Item{item(5, 5)}, 2, []int{0}},
		{[]api.Item{item(3, 5)}, []api.Item{item(1, 5)}, 1, []int{-1}},
		{[]api.Item{item(3, 5)}, []api.Item{item(1, 5)}, 2, []int{0}},
		{[]api.Item{item(3, 5)}, []api.Item{item(0, 5), item(7, 5), item(2, 4), item(4, 5)}, 2, []int{3}},
		// Each item of b once.
		{times(3, item(3, 5)), times(2, item(3, 5)), 0, []int{0, 1, -1}},
		{times(2, item(3, 5)), times(3, item(3, 5)), 0, []int{0, 1}},
		// The first one in the order of days, and not the nearest one or the
		// first one of the list.
		{[]api.Item{item(3, 5)}, []api.Item{item(4, 5), item(3, 5), item(1, 5)}, 2, []int{2}},
		{[]api.Item{item(3, 5)}, []api.Item{item(5, 5), item(3, 5)}, 2, []int{1}},
		{[]api.Item{item(3, 5)}, []api.Item{item(3, 5), item(2, 5)}, 2, []int{1}},
		// Equal days of b in list order.
		{[]api.Item{item(3, 5)}, []api.Item{item(4, 5), item(2, 6), item(2, 5), item(2, 5)}, 2, []int{2}},
		{[]api.Item{item(3, 5), item(3, 5)}, []api.Item{item(4, 5), item(2, 5), item(2, 5)}, 2, []int{1, 2}},
		// The items of a in the order of days: the earlier one is matched first.
		{[]api.Item{item(5, 1), item(3, 1)}, []api.Item{item(4, 1)}, 1, []int{-1, 0}},
		{[]api.Item{item(3, 1), item(5, 1)}, []api.Item{item(4, 1)}, 1, []int{0, -1}},
		{[]api.Item{item(5, 1), item(3, 1)}, []api.Item{item(4, 1), item(6, 1)}, 1, []int{1, 0}},
		{[]api.Item{item(5, 1), item(3, 1), item(4, 2)}, []api.Item{item(2, 1), item(6, 1), item(9, 2)}, 3, []int{1, 0, -1}},
		{[]api.Item{item(5, 1), item(3, 1), item(4, 2)}, []api.Item{item(2, 1), item(6, 1), item(9, 2)}, 5, []int{1, 0, 2}},
		// Equal days of a in list order.
		{[]api.Item{item(9, 7), item(3, 1), item(3, 1), item(3, 1)}, []api.Item{item(3, 1), item(2, 1)}, 1, []int{-1, 1, 0, -1}},
		// An item of another amount between two matches is not in the way, and
		// neither is one that is too far away.
		{[]api.Item{item(1, 1), item(2, 2), item(3, 1)}, []api.Item{item(1, 1), item(2, 9), item(3, 1), item(4, 2)}, 2, []int{0, 3, 2}},
		{[]api.Item{item(1, 1), item(9, 1)}, []api.Item{item(5, 1), item(9, 1)}, 3, []int{-1, 1}},
		{[]api.Item{item(9, 1), item(1, 1)}, []api.Item{item(0, 1), item(9, 1), item(5, 1)}, 4, []int{2, 0}},
		// The bounds.
		{[]api.Item{item(0, most)}, []api.Item{item(292193, most)}, 292193, []int{0}},
		{[]api.Item{item(292193, most)}, []api.Item{item(0, most)}, 292193, []int{0}},
		{[]api.Item{item(0, most)}, []api.Item{item(292193, most)}, 292192, []int{-1}},
		{[]api.Item{item(292193, most)}, []api.Item{item(0, most)}, 292192, []int{-1}},
		{times(40, item(3, 5)), times(40, item(3, 5)), 0, up(40)},
		{times(40, item(3, 5)), times(39, item(3, 5)), 0, append(up(39), -1)},
		{times(40, item(3, 5)), nil, 5, slices.Repeat([]int{-1}, 40)},
		{nil, times(40, item(3, 5)), 5, nil},
	} {
		testTie(t, x.a, x.b, x.within, x.ties, api.OK)
	}
}

// randomItems are n valid items, whose amounts and days often agree.
func randomItems(r *rand.Rand, n, days, amounts int) []api.Item {
	l := make([]api.Item, n)
	for i := range l {
		l[i] = item(r.Intn(days), 1+r.Intn(amounts))
	}
	return l
}

func fits(x, y api.Item, within int) bool {
	return x.Amount == y.Amount && x.Day-y.Day <= within && y.Day-x.Day <= within
}

// reference follows P49: it goes through all days, first of a and then of b.
func reference(a, b []api.Item, within, days int) []int {
	ties := slices.Repeat([]int{-1}, len(a))
	for day := range days {
		for i, x := range a {
			if x.Day == day {
				ties[i] = firstFree(x, b, within, ties)
			}
		}
	}
	return ties
}

func firstFree(x api.Item, b []api.Item, within int, ties []int) int {
	first := -1
	for j, y := range b {
		if slices.Contains(ties, j) || !fits(x, y, within) {
			continue
		}
		if first < 0 || y.Day < b[first].Day {
			first = j
		}
	}
	return first
}

// greatest is the number of pairs of a greatest matching, which augmenting
// paths find.
func greatest(a, b []api.Item, within int) int {
	owner := slices.Repeat([]int{-1}, len(b))
	n := 0
	for i := range a {
		if augment(a, b, within, i, owner, make([]bool, len(b))) {
			n++
		}
	}
	return n
}

func augment(a, b []api.Item, within, i int, owner []int, seen []bool) bool {
	for j := range b {
		if seen[j] || !fits(a[i], b[j], within) {
			continue
		}
		seen[j] = true
		if owner[j] < 0 || augment(a, b, within, owner[j], owner, seen) {
			owner[j] = i
			return true
		}
	}
	return false
}

// P49: the rule on random items, no item of b is matched twice, and no other
// matching matches more items.
func TestDefinition(t *testing.T) {
	r := rand.New(rand.NewSource(49))
	for range 20000 {
		days := []int{1, 6, 40, 200}[r.Intn(4)]
		amounts := 1 + r.Intn(4)
		a := randomItems(r, r.Intn(api.MaxLots+1), days, amounts)
		b := randomItems(r, r.Intn(api.MaxLots+1), days, amounts)
		within := []int{0, r.Intn(4), r.Intn(days), r.Intn(292194)}[r.Intn(4)]
		ties, err := tie.Tie(a, b, within)
		if want := reference(a, b, within, days); !slices.Equal(ties, want) || err != api.OK {
			t.Fatalf("Tie(%v, %v, %d) = %v, %d; want %v", a, b, within, ties, err, want)
		}
		seen := make([]bool, len(b))
		pairs := 0
		for i, j := range ties {
			if j < 0 {
				continue
			}
			if seen[j] || !fits(a[i], b[j], within) {
				t.Fatalf("Tie(%v, %v, %d) = %v", a, b, within, ties)
			}
			seen[j] = true
			pairs++
		}
		if n := greatest(a, b, within); pairs != n {
			t.Fatalf("Tie(%v, %v, %d) = %v: %d pairs; %d are possible", a, b, within, ties, pairs, n)
		}
	}
}

// P49: the errors of P46 for each list, and the distance out of its bounds.
func TestErrors(t *testing.T) {
	good := []api.Item{item(3, 5), item(4, 5)}
	large := times(41, item(3, 5))
	for _, x := range []api.Item{{}, item(5, 0), item(5, -1), item(5, most+1), item(5, math.MinInt), item(5, math.MaxInt), item(-1, 5), item(292194, 5), item(math.MinInt, 5), item(math.MaxInt, 5)} {
		for i := range api.MaxLots {
			bad := times(api.MaxLots, item(3, 5))
			bad[i] = x
			for _, within := range []int{0, 5, -1, 292194} {
				testTie(t, bad, good, within, nil, api.ErrArg)
				testTie(t, good, bad, within, nil, api.ErrArg)
				testTie(t, bad, nil, within, nil, api.ErrArg)
				testTie(t, nil, bad, within, nil, api.ErrArg)
				// The error of a comes first.
				testTie(t, bad, large, within, nil, api.ErrArg)
				testTie(t, large, bad, within, nil, api.ErrLarge)
			}
		}
	}
	for _, within := range []int{-1, math.MinInt, 292194, math.MaxInt} {
		testTie(t, good, good, within, nil, api.ErrArg)
		testTie(t, nil, nil, within, nil, api.ErrArg)
		// The errors of the lists come first.
		testTie(t, large, good, within, nil, api.ErrLarge)
		testTie(t, good, large, within, nil, api.ErrLarge)
	}
	testTie(t, large, good, 5, nil, api.ErrLarge)
	testTie(t, good, large, 5, nil, api.ErrLarge)
	testTie(t, nil, make([]api.Item, 41), 5, nil, api.ErrLarge)
	testTie(t, make([]api.Item, 1000), nil, 5, nil, api.ErrLarge)
}

// P2: the arguments stay as they are, with their spare capacity, and share no
// memory with a result.
func TestMemory(t *testing.T) {
	a := []api.Item{item(5, 1), item(3, 1), item(4, 2), item(1, 1)}
	b := []api.Item{item(9, 2), item(6, 1), item(2, 1), item(1, 1)}
	keptA, keptB := slices.Clone(a), slices.Clone(b)
	x, _ := tie.Tie(a[:3], b[:3], 5)
	spoil(x, -7)
	y, _ := tie.Tie(a[:3], b[:3], 5)
	if !slices.Equal(y, []int{1, 2, 0}) || !slices.Equal(a, keptA) || !slices.Equal(b, keptB) {
		t.Error(y, a, b)
	}
	// Both lists may be the same one.
	z, err := tie.Tie(a[:3], a[:3], 5)
	if !slices.Equal(z, []int{0, 1, 2}) || err != api.OK || !slices.Equal(a, keptA) {
		t.Error(z, err, a)
	}
}

// spoil overwrites a list with its spare capacity.
func spoil[T any](l []T, x T) {
	l = l[:cap(l)]
	for i := range l {
		l[i] = x
	}
}
