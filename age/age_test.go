package age_test

import (
	"cmp"
	"math"
	"math/rand"
	"slices"
	"testing"

	"tallage/age"
	"tallage/api"
)

const most = 1000000000000

func item(day, amount int) api.Item { return api.Item{Day: day, Amount: amount} }

func times(n int, x api.Item) []api.Item { return slices.Repeat([]api.Item{x}, n) }

func join(l ...[]api.Item) []api.Item { return slices.Concat(l...) }

// short is the list, or its beginning if it is long.
func short[T any](l []T) []T { return l[:min(len(l), 12)] }

func testCheck(t *testing.T, l []api.Item, want api.Errno) {
	t.Helper()
	if err := age.Check(l); err != want {
		t.Errorf("Check(%d items: %v) = %d; want %d", len(l), short(l), err, want)
	}
}

func testPay(t *testing.T, l []api.Item, amount int, open []api.Item, rest int, want api.Errno) {
	t.Helper()
	if x, n, err := age.Pay(l, amount); !slices.Equal(x, open) || n != rest || err != want {
		t.Errorf("Pay(%d items: %v, %d) = %v, %d, %d; want %v, %d, %d", len(l), short(l), amount, x, n, err, open, rest, want)
	}
}

func testAges(t *testing.T, l []api.Item, today int, bounds, sums []int, want api.Errno) {
	t.Helper()
	if x, err := age.Ages(l, today, bounds); !slices.Equal(x, sums) || err != want {
		t.Errorf("Ages(%d items: %v, %d, %d bounds: %v) = %v, %d; want %v, %d", len(l), short(l), today, len(bounds), short(bounds), x, err, sums, want)
	}
}

// P46: valid lists, in any order of days, and the bounds.
func TestCheck(t *testing.T) {
	for _, l := range [][]api.Item{
		nil,
		{},
		{item(0, 1)},
		{item(0, most)},
		{item(292193, 1)},
		{item(292193, most)},
		{item(5, 10), item(3, 10), item(5, 10), item(5, 2)},
		times(40, item(7, 7)),
		times(40, item(292193, most)),
	} {
		testCheck(t, l, api.OK)
	}
}

// badItems are the ways in which an item is invalid.
var badItems = []api.Item{
	{},
	{Day: 5},
	{Day: 5, Amount: -1},
	{Day: 5, Amount: most + 1},
	{Day: 5, Amount: -most},
	{Day: 5, Amount: math.MinInt},
	{Day: 5, Amount: math.MaxInt},
	{Day: -1, Amount: 1},
	{Day: -1, Amount: 0},
	{Day: 292194, Amount: 1},
	{Day: 292194, Amount: most + 1},
	{Day: math.MinInt, Amount: 1},
	{Day: math.MaxInt, Amount: 1},
}

// testItems: all functions have the error of the list, whatever the other
// arguments, and no other result.
func testItems(t *testing.T, l []api.Item, want api.Errno) {
	t.Helper()
	testCheck(t, l, want)
	for _, amount := range []int{0, 5, most, -1, most + 1} {
		testPay(t, l, amount, nil, 0, want)
	}
	for _, today := range []int{0, 8, -1, 292194} {
		for _, bounds := range [][]int{nil, {3}, {-1}, {3, 3}, make([]int, 41)} {
			testAges(t, l, today, bounds, nil, want)
		}
	}
}

// P46: numbers out of their bounds, at every place of a list, and their error
// before all others in P47 and P48.
func TestItemErrors(t *testing.T) {
	for _, x := range badItems {
		testItems(t, []api.Item{x}, api.ErrArg)
		for i := range api.MaxLots {
			l := times(api.MaxLots, item(2, 10))
			l[i] = x
			testItems(t, l, api.ErrArg)
		}
		// The number of items comes before the error of an item.
		testItems(t, times(41, x), api.ErrLarge)
		testItems(t, join([]api.Item{x}, times(40, item(1, 1))), api.ErrLarge)
	}
}

// P46: 40 items are not too many.
func TestItemsLarge(t *testing.T) {
	testItems(t, times(41, item(1, 1)), api.ErrLarge)
	testItems(t, make([]api.Item, 41), api.ErrLarge)
	testItems(t, make([]api.Item, 1000), api.ErrLarge)
	testItems(t, make([]api.Item, 40), api.ErrArg)
	testPay(t, times(40, item(1, 1)), 3, times(37, item(1, 1)), 0, api.OK)
	testAges(t, times(40, item(1, 1)), 2, []int{0}, []int{0, 40}, api.OK)
}

// P47: the oldest item first, equal days in the order of the list, items that
// are paid completely and partially, what is left of the payment, the bounds.
func TestPay(t *testing.T) {
	l := []api.Item{item(5, 10), item(3, 10), item(5, 2), item(9, 1), item(5, 10), item(0, 4)}
	for _, x := range []struct {
		l      []api.Item
		amount int
		open   []api.Item
		rest   int
	}{
		{nil, 0, nil, 0},
		{[]api.Item{}, 0, nil, 0},
		{nil, 7, nil, 7},
		{nil, most, nil, most},
		{[]api.Item{item(3, 5)}, 0, []api.Item{item(3, 5)}, 0},
		{[]api.Item{item(3, 5)}, 1, []api.Item{item(3, 4)}, 0},
		{[]api.Item{item(3, 5)}, 4, []api.Item{item(3, 1)}, 0},
		{[]api.Item{item(3, 5)}, 5, nil, 0},
		{[]api.Item{item(3, 5)}, 6, nil, 1},
		// Sorted, even if nothing is paid, and equal days in their order.
		{l, 0, []api.Item{item(0, 4), item(3, 10), item(5, 10), item(5, 2), item(5, 10), item(9, 1)}, 0},
		{l, 3, []api.Item{item(0, 1), item(3, 10), item(5, 10), item(5, 2), item(5, 10), item(9, 1)}, 0},
		{l, 4, []api.Item{item(3, 10), item(5, 10), item(5, 2), item(5, 10), item(9, 1)}, 0},
		{l, 5, []api.Item{item(3, 9), item(5, 10), item(5, 2), item(5, 10), item(9, 1)}, 0},
		// What does not pay the first item that is left pays no later item,
		// even if it would pay that one.
		{l, 19, []api.Item{item(5, 5), item(5, 2), item(5, 10), item(9, 1)}, 0},
		{l, 23, []api.Item{item(5, 1), item(5, 2), item(5, 10), item(9, 1)}, 0},
		{l, 24, []api.Item{item(5, 2), item(5, 10), item(9, 1)}, 0},
		{l, 25, []api.Item{item(5, 1), item(5, 10), item(9, 1)}, 0},
		{l, 35, []api.Item{item(5, 1), item(9, 1)}, 0},
		{l, 36, []api.Item{item(9, 1)}, 0},
		{l, 37, nil, 0},
		{l, 38, nil, 1},
		{l, most, nil, most - 37},
		// Equal items, and items that are sorted already or the other way round.
		{times(3, item(2, 5)), 7, []api.Item{item(2, 3), item(2, 5)}, 0},
		{[]api.Item{item(1, 1), item(2, 2), item(3, 3)}, 2, []api.Item{item(2, 1), item(3, 3)}, 0},
		{[]api.Item{item(3, 3), item(2, 2), item(1, 1)}, 2, []api.Item{item(2, 1), item(3, 3)}, 0},
		// The bounds.
		{[]api.Item{item(292193, 1), item(0, most)}, most, []api.Item{item(292193, 1)}, 0},
		{[]api.Item{item(292193, 1), item(0, most)}, most - 1, []api.Item{item(0, 1), item(292193, 1)}, 0},
		{[]api.Item{item(0, 1), item(292193, most)}, most, []api.Item{item(292193, 1)}, 0},
		{times(40, item(1, most)), most, times(39, item(1, most)), 0},
		{times(40, item(1, most)), 0, times(40, item(1, most)), 0},
		{times(40, item(1, most/40)), most, nil, 0},
		{times(40, item(1, most/40)), most - 1, []api.Item{item(1, 1)}, 0},
	} {
		testPay(t, x.l, x.amount, x.open, x.rest, api.OK)
	}
}

// P47: payments out of their bounds.
func TestPayErrors(t *testing.T) {
	for _, amount := range []int{-1, -2, -most, math.MinInt, most + 1, 40 * most, math.MaxInt} {
		for _, l := range [][]api.Item{nil, {item(3, 5)}, times(40, item(1, most))} {
			testPay(t, l, amount, nil, 0, api.ErrArg)
		}
	}
}

// randomItems are n valid items on the days from 0 to 9 or all days, and small
// or great.
func randomItems(r *rand.Rand, n int) []api.Item {
	days := []int{1, 10, 292194}[r.Intn(3)]
	amounts := []int{1, 9, 100, most}[r.Intn(4)]
	l := make([]api.Item, n)
	for i := range l {
		l[i] = item(r.Intn(days), 1+r.Intn(amounts))
	}
	return l
}

func total(l []api.Item) int {
	n := 0
	for _, x := range l {
		n += x.Amount
	}
	return n
}

// pay follows P47: it looks for the oldest item over and over again.
func pay(l []api.Item, amount int) ([]api.Item, int) {
	rest := slices.Clone(l)
	var open []api.Item
	for len(rest) > 0 {
		oldest := 0
		for i, x := range rest {
			if x.Day < rest[oldest].Day {
				oldest = i
			}
		}
		x := rest[oldest]
		rest = slices.Delete(rest, oldest, oldest+1)
		if x.Amount <= amount {
			amount -= x.Amount
			continue
		}
		open = append(open, item(x.Day, x.Amount-amount))
		amount = 0
	}
	return open, amount
}

// P47: the rule on random items, and what is open, less what is left of the
// payment, is less than before by the payment.
func TestPayDefinition(t *testing.T) {
	r := rand.New(rand.NewSource(47))
	for range 20000 {
		l := randomItems(r, r.Intn(api.MaxLots+1))
		whole := total(l)
		amount := []int{0, r.Intn(20), r.Intn(whole + 1), whole - 1, whole, whole + 1, r.Intn(most + 1)}[r.Intn(7)]
		amount = max(0, min(amount, most))
		open, rest, err := age.Pay(l, amount)
		wantOpen, wantRest := pay(l, amount)
		if !slices.Equal(open, wantOpen) || rest != wantRest || err != api.OK {
			t.Fatalf("Pay(%v, %d) = %v, %d, %d; want %v, %d", l, amount, open, rest, err, wantOpen, wantRest)
		}
		if total(open)-rest != whole-amount {
			t.Fatalf("Pay(%v, %d) = %v, %d", l, amount, open, rest)
		}
		if !slices.IsSortedFunc(open, func(a, b api.Item) int { return cmp.Compare(a.Day, b.Day) }) {
			t.Fatalf("Pay(%v, %d) = %v", l, amount, open)
		}
		testPaidTwice(t, l, amount)
	}
}

// testPaidTwice: a payment in two parts has the result of the whole payment.
func testPaidTwice(t *testing.T, l []api.Item, amount int) {
	t.Helper()
	open, rest, _ := age.Pay(l, amount)
	first, firstRest, _ := age.Pay(l, amount/3)
	second, secondRest, _ := age.Pay(first, amount-amount/3)
	if !slices.Equal(open, second) || rest != firstRest+secondRest {
		t.Fatalf("Pay(%v, %d) = %v, %d; in two parts %v, %d", l, amount, open, rest, second, firstRest+secondRest)
	}
}

// P48: ages at a bound and beside it, items of later days, sums of several
// items, no items, no bounds, and the limits.
func TestAges(t *testing.T) {
	l := []api.Item{item(5, 10), item(3, 100), item(5, 2), item(9, 1000), item(8, 20000)}
	all := make([]int, 40)
	for i := range all {
		all[i] = i
	}
	for _, x := range []struct {
		l            []api.Item
		today        int
		bounds, sums []int
	}{
		{nil, 0, nil, []int{0}},
		{[]api.Item{}, 0, []int{}, []int{0}},
		{nil, 292193, []int{0, 7, 292193}, []int{0, 0, 0, 0}},
		{l, 8, nil, []int{21112}},
		{l, 8, []int{0}, []int{21000, 112}},
		{l, 8, []int{2}, []int{21000, 112}},
		{l, 8, []int{3}, []int{21012, 100}},
		{l, 8, []int{4}, []int{21012, 100}},
		{l, 8, []int{5}, []int{21112, 0}},
		{l, 8, []int{6}, []int{21112, 0}},
		{l, 8, []int{292193}, []int{21112, 0}},
		{l, 8, []int{0, 1, 2, 3, 4, 5, 6}, []int{21000, 0, 0, 12, 0, 100, 0, 0}},
		{l, 8, []int{3, 5}, []int{21012, 100, 0}},
		{l, 8, []int{0, 3, 4}, []int{21000, 12, 0, 100}},
		{l, 8, []int{1, 2}, []int{21000, 0, 112}},
		// Today is before all items, and after all of them.
		{l, 0, []int{0}, []int{21112, 0}},
		{l, 3, []int{0, 1}, []int{21112, 0, 0}},
		{l, 4, []int{0, 1}, []int{21012, 100, 0}},
		{l, 9, []int{0, 1, 4}, []int{1000, 20000, 12, 100}},
		{l, 10, []int{0, 1, 2}, []int{0, 1000, 20000, 112}},
		{l, 292193, []int{0, 292184, 292185, 292188}, []int{0, 1000, 20000, 12, 100}},
		// The bounds.
		{[]api.Item{item(0, 7)}, 292193, []int{292192}, []int{0, 7}},
		{[]api.Item{item(0, 7)}, 292193, []int{292193}, []int{7, 0}},
		{[]api.Item{item(0, 7)}, 292193, []int{292192, 292193}, []int{0, 7, 0}},
		{[]api.Item{item(292193, 7)}, 0, []int{0, 292193}, []int{7, 0, 0}},
		{[]api.Item{item(0, 7)}, 0, []int{0}, []int{7, 0}},
		{times(40, item(1, most)), 2, []int{0}, []int{0, 40 * most}},
		{times(40, item(1, most)), 1, []int{0}, []int{40 * most, 0}},
		{[]api.Item{item(0, 7), item(2, 5)}, 39, all, append(make([]int, 37), 5, 0, 7, 0)},
		{[]api.Item{item(0, 7), item(2, 5)}, 40, all, append(make([]int, 38), 5, 0, 7)},
	} {
		testAges(t, x.l, x.today, x.bounds, x.sums, api.OK)
	}
}

// ages follows P48: it counts each item for each bound.
func ages(l []api.Item, today int, bounds []int) []int {
	sums := make([]int, len(bounds)+1)
	for i := range sums {
		for _, x := range l {
			days := 0
			if x.Day < today {
				days = today - x.Day
			}
			above := i == 0 || days > bounds[i-1]
			if above && (i == len(bounds) || days <= bounds[i]) {
				sums[i] += x.Amount
			}
		}
	}
	return sums
}

// P48: the rule on random items, and all items are in the sums.
func TestAgesDefinition(t *testing.T) {
	r := rand.New(rand.NewSource(48))
	for range 20000 {
		l := randomItems(r, r.Intn(api.MaxLots+1))
		today := []int{r.Intn(12), r.Intn(292194)}[r.Intn(2)]
		last := []int{12, 292194}[r.Intn(2)]
		bounds := make([]int, r.Intn(api.MaxLots+1))
		for i := range bounds {
			bounds[i] = r.Intn(last)
		}
		slices.Sort(bounds)
		bounds = slices.Compact(bounds)
		sums, err := age.Ages(l, today, bounds)
		if want := ages(l, today, bounds); !slices.Equal(sums, want) || err != api.OK {
			t.Fatalf("Ages(%v, %d, %v) = %v, %d; want %v", l, today, bounds, sums, err, want)
		}
		sum := 0
		for _, x := range sums {
			sum += x
		}
		if sum != total(l) {
			t.Fatalf("Ages(%v, %d, %v) = %v, in all %d; want %d", l, today, bounds, sums, sum, total(l))
		}
	}
}

// P48: the errors of the day and of the bounds, and their order.
func TestAgesErrors(t *testing.T) {
	many := make([]int, 41)
	for i := range many {
		many[i] = i
	}
	l := []api.Item{item(5, 10), item(3, 100)}
	for _, x := range []struct {
		today  int
		bounds []int
		want   api.Errno
	}{
		{-1, nil, api.ErrArg},
		{-1, []int{3}, api.ErrArg},
		{292194, []int{3}, api.ErrArg},
		{math.MinInt, []int{3}, api.ErrArg},
		{math.MaxInt, []int{3}, api.ErrArg},
		{8, many, api.ErrLarge},
		{8, make([]int, 41), api.ErrLarge},
		{8, make([]int, 1000), api.ErrLarge},
		{8, slices.Repeat([]int{-1}, 41), api.ErrLarge},
		{8, []int{-1}, api.ErrArg},
		{8, []int{292194}, api.ErrArg},
		{8, []int{math.MinInt}, api.ErrArg},
		{8, []int{math.MaxInt}, api.ErrArg},
		{8, []int{0, 5, 292194}, api.ErrArg},
		{8, []int{0, 0}, api.ErrForm},
		{8, []int{3, 3}, api.ErrForm},
		{8, []int{3, 2}, api.ErrForm},
		{8, []int{292193, 292193}, api.ErrForm},
		{8, []int{292193, 0}, api.ErrForm},
		{8, []int{1, 2, 3, 3}, api.ErrForm},
		{8, []int{1, 2, 3, 2, 5}, api.ErrForm},
		{8, []int{1, 5, 3, 4, 6}, api.ErrForm},
		// The day comes before the bounds.
		{-1, many, api.ErrArg},
		{292194, []int{3, 3}, api.ErrArg},
		// The first bound that has an error determines it, and of its errors
		// ErrArg.
		{8, []int{3, 3, -1}, api.ErrForm},
		{8, []int{3, -1, 3, 3}, api.ErrArg},
		{8, []int{0, -1}, api.ErrArg},
		{8, []int{3, math.MinInt}, api.ErrArg},
		{8, []int{-1, -1}, api.ErrArg},
		{8, []int{292194, 3}, api.ErrArg},
	} {
		testAges(t, l, x.today, x.bounds, nil, x.want)
		testAges(t, nil, x.today, x.bounds, nil, x.want)
	}
	for i := range 40 {
		for _, bound := range []int{-1, 292194, math.MinInt, math.MaxInt} {
			bounds := slices.Clone(many[:40])
			bounds[i] = bound
			testAges(t, l, 8, bounds, nil, api.ErrArg)
		}
		if i > 0 {
			bounds := slices.Clone(many[:40])
			bounds[i] = bounds[i-1]
			testAges(t, l, 8, bounds, nil, api.ErrForm)
		}
	}
	if _, err := age.Ages(l, 8, many[:40]); err != api.OK {
		t.Errorf("Ages with 40 bounds: %d", err)
	}
}

// P2: the arguments stay as they are, with their spare capacity, and share no
// memory with a result.
func TestMemory(t *testing.T) {
	whole := []api.Item{item(5, 10), item(3, 10), item(5, 2), item(1, 1), item(0, 9)}
	kept := slices.Clone(whole)
	for amount := range 30 {
		l := whole[:4]
		want, _ := pay(kept[:4], amount)
		a, _, _ := age.Pay(l, amount)
		spoil(a, item(-7, -7))
		b, _, _ := age.Pay(l, amount)
		if !slices.Equal(b, want) || !slices.Equal(whole, kept) {
			t.Fatal(amount, b, want, whole)
		}
	}
	bounds := []int{2, 3, 4, 1}
	a, _ := age.Ages(whole[:4], 8, bounds[:3])
	spoil(a, -7)
	b, _ := age.Ages(whole[:4], 8, bounds[:3])
	if !slices.Equal(b, []int{0, 12, 0, 11}) || !slices.Equal(bounds, []int{2, 3, 4, 1}) || !slices.Equal(whole, kept) {
		t.Error(b, bounds, whole)
	}
}

// spoil overwrites a list with its spare capacity.
func spoil[T any](l []T, x T) {
	l = l[:cap(l)]
	for i := range l {
		l[i] = x
	}
}
