package earn_test

import (
	"math"
	"math/big"
	"math/rand"
	"slices"
	"testing"
	"time"

	"tallage/api"
	"tallage/earn"
)

// byDay follows P26 for valid arguments, in numbers without bounds: of the
// absolute value, the greatest integer that is not greater than the quotient
// and a half, with the sign of the amount.
func byDay(amount, from, to, day int) int {
	if amount < 0 {
		return -byDay(-amount, from, to, day)
	}
	past := 0
	if day >= to {
		past = to - from + 1
	} else if day >= from {
		past = day - from + 1
	}
	all := to - from + 1
	num := new(big.Int).Mul(big.NewInt(int64(amount)), big.NewInt(int64(2*past)))
	num.Add(num, big.NewInt(int64(all)))
	return int(num.Div(num, big.NewInt(int64(2*all))).Int64())
}

// byMonth follows P27 for valid arguments, with the calendar of package time.
// It has the part of every month, also if there are more than 40.
func byMonth(amount, from, to int) []int {
	start := time.Date(1600, 1, 1, 0, 0, 0, 0, time.UTC)
	first := start.AddDate(0, 0, from)
	var l []int
	before := 0
	for month := first.Month(); ; month++ {
		next := time.Date(first.Year(), month+1, 1, 0, 0, 0, 0, time.UTC)
		last := int((next.Unix()-start.Unix())/86400) - 1
		now := byDay(amount, from, to, last)
		l = append(l, now-before)
		before = now
		if last >= to {
			return l
		}
	}
}

// P26: days before, in and after the interval, halves, and the bounds.
func TestBy(t *testing.T) {
	for _, x := range []struct{ amount, from, to, day, want int }{
		{100, 10, 13, 0, 0},
		{100, 10, 13, 9, 0},
		{100, 10, 13, 10, 25},
		{100, 10, 13, 11, 50},
		{100, 10, 13, 12, 75},
		{100, 10, 13, 13, 100},
		{100, 10, 13, 14, 100},
		{100, 10, 13, api.MaxDay, 100},
		{5, 0, 1, 0, 3},
		{-5, 0, 1, 0, -3},
		{1, 0, 1, 0, 1},
		{-1, 0, 1, 0, -1},
		{1, 0, 2, 0, 0},
		{1, 0, 2, 1, 1},
		{-1, 0, 2, 0, 0},
		{-1, 0, 2, 1, -1},
		{-100, 10, 13, 10, -25},
		{-100, 10, 13, 9, 0},
		{-100, 10, 13, 13, -100},
		{-100, 10, 13, 99, -100},
		{0, 10, 13, 11, 0},
		{7, 5, 5, 4, 0},
		{7, 5, 5, 5, 7},
		{7, 5, 5, 6, 7},
		{7, 0, 0, 0, 7},
		{7, api.MaxDay, api.MaxDay, api.MaxDay, 7},
		{7, api.MaxDay, api.MaxDay, api.MaxDay - 1, 0},
		{api.MaxMoney, 0, api.MaxDay, api.MaxDay, api.MaxMoney},
		{api.MaxMoney, 0, api.MaxDay, 0, 3422384},
		{api.MaxMoney, 0, api.MaxDay, api.MaxDay - 1, api.MaxMoney - 3422384},
		{-api.MaxMoney, 0, api.MaxDay, api.MaxDay, -api.MaxMoney},
		{-api.MaxMoney, 0, api.MaxDay, 0, -3422384},
		{api.MaxMoney, 0, api.MaxDay, 146096, api.MaxMoney / 2},
	} {
		if n, err := earn.By(x.amount, x.from, x.to, x.day); n != x.want || err != api.OK {
			t.Errorf("By(%d, %d, %d, %d) = %d, %d; want %d", x.amount, x.from, x.to, x.day, n, err, x.want)
		}
	}
}

// P26: small intervals in full, and long ones at random.
func TestByDefinition(t *testing.T) {
	check := func(amount, from, to, day int) {
		want := byDay(amount, from, to, day)
		if n, err := earn.By(amount, from, to, day); n != want || err != api.OK {
			t.Fatalf("By(%d, %d, %d, %d) = %d, %d; want %d", amount, from, to, day, n, err, want)
		}
	}
	for amount := -15; amount <= 15; amount++ {
		for days := 1; days <= 12; days++ {
			for day := range 20 {
				check(amount, 3, 2+days, day)
			}
		}
	}
	r := rand.New(rand.NewSource(26))
	for range 20000 {
		amount := r.Intn(2*api.MaxMoney+1) - api.MaxMoney
		from := r.Intn(api.MaxDay + 1)
		to := from + r.Intn(api.MaxDay-from+1)
		check(amount, from, to, from+r.Intn(to-from+1))
		check(amount, from, to, r.Intn(api.MaxDay+1))
		check(api.MaxMoney, 0, to, from)
		check(-api.MaxMoney, from, api.MaxDay, to)
	}
}

// P27: the example, one day, parts of months, negative amounts and the ends of
// the calendar.
func TestMonths(t *testing.T) {
	for _, x := range []struct {
		amount, from, to int
		want             []int
	}{
		{62, 0, 61, []int{31, 29, 2}},
		{-62, 0, 61, []int{-31, -29, -2}},
		{60, 0, 59, []int{31, 29}},
		{61, 0, 60, []int{31, 29, 1}},
		{7, 0, 0, []int{7}},
		{7, 30, 30, []int{7}},
		{7, 30, 31, []int{4, 3}},
		{-7, 30, 31, []int{-4, -3}},
		{31, 0, 30, []int{31}},
		{32, 0, 31, []int{31, 1}},
		{10, 5, 8, []int{10}},
		{1, 0, 90, []int{0, 1, 0}},
		{0, 0, 61, []int{0, 0, 0}},
		{62, api.MaxDay - 61, api.MaxDay, []int{1, 30, 31}},
		{-9, api.MaxDay, api.MaxDay, []int{-9}},
		{api.MaxMoney, api.MaxDay, api.MaxDay, []int{api.MaxMoney}},
		{366, 0, 365, []int{31, 29, 31, 30, 31, 30, 31, 31, 30, 31, 30, 31}},
		{365, 366, 730, []int{31, 28, 31, 30, 31, 30, 31, 31, 30, 31, 30, 31}},
	} {
		if l, err := earn.Months(x.amount, x.from, x.to); !slices.Equal(l, x.want) || err != api.OK {
			t.Errorf("Months(%d, %d, %d) = %v, %d; want %v", x.amount, x.from, x.to, l, err, x.want)
		}
	}
}

// P27: the parts of the months, which sum to the amount, and the error of
// intervals that are too long.
func TestMonthsDefinition(t *testing.T) {
	r := rand.New(rand.NewSource(27))
	for i := range 20000 {
		amount := r.Intn(2*api.MaxMoney+1) - api.MaxMoney
		if i%2 == 0 {
			amount = r.Intn(201) - 100
		}
		from := r.Intn(api.MaxDay + 1)
		to := min(from+r.Intn(1300), api.MaxDay)
		l, err := earn.Months(amount, from, to)
		want := byMonth(amount, from, to)
		if len(want) > 40 {
			if len(l) != 0 || err != api.ErrLarge {
				t.Fatalf("Months(%d, %d, %d) = %v, %d for %d months", amount, from, to, l, err, len(want))
			}
			continue
		}
		if !slices.Equal(l, want) || err != api.OK {
			t.Fatalf("Months(%d, %d, %d) = %v, %d; want %v", amount, from, to, l, err, want)
		}
		sum := 0
		for _, part := range l {
			sum += part
		}
		if sum != amount {
			t.Fatalf("Months(%d, %d, %d) = %v has the sum %d", amount, from, to, l, sum)
		}
	}
}

// P27: 40 calendar months are not too many, however few days are in the first
// and the last of them; 41 are.
func TestMonthsLarge(t *testing.T) {
	// The first 40 months are three years with one leap year, and January to
	// April.
	const ends = 366 + 365 + 365 + 31 + 28 + 31 + 30 - 1
	for _, x := range []struct {
		from, to, months int
		want             api.Errno
	}{
		{0, ends - 1, 40, api.OK},
		{0, ends, 40, api.OK},
		{30, ends, 40, api.OK},
		{0, ends - 29, 40, api.OK},
		{30, ends - 29, 40, api.OK},
		{0, ends - 30, 39, api.OK},
		{31, ends, 39, api.OK},
		{0, ends + 1, 0, api.ErrLarge},
		{30, ends + 1, 0, api.ErrLarge},
		{31, ends + 1, 40, api.OK},
		{0, api.MaxDay, 0, api.ErrLarge},
		{0, 2000, 0, api.ErrLarge},
	} {
		l, err := earn.Months(1000, x.from, x.to)
		if len(l) != x.months || err != x.want {
			t.Errorf("Months(1000, %d, %d): %d months, %d; want %d, %d", x.from, x.to, len(l), err, x.months, x.want)
		}
	}
}

// P26, P27: each argument just out of its range and far out of it; the errors
// of By come before ErrLarge.
func TestErrors(t *testing.T) {
	far := []int{math.MinInt, math.MinInt + 1, -1, api.MaxDay + 1, math.MaxInt - 1, math.MaxInt}
	both := []struct{ amount, from, to int }{
		{api.MaxMoney + 1, 0, 61},
		{-api.MaxMoney - 1, 0, 61},
		{math.MaxInt, 0, 61},
		{math.MinInt, 0, 61},
		{api.MaxMoney + 1, 0, api.MaxDay},
		{62, 5, 4},
		{62, api.MaxDay, 0},
		{0, 1, 0},
		{math.MinInt, math.MaxInt, math.MinInt},
	}
	for _, n := range far {
		both = append(both, []struct{ amount, from, to int }{{62, n, 61}, {62, 0, n}, {62, n, n}, {0, n, api.MaxDay}}...)
	}
	for _, x := range both {
		if n, err := earn.By(x.amount, x.from, x.to, 3); n != 0 || err != api.ErrArg {
			t.Errorf("By(%d, %d, %d, 3) = %d, %d", x.amount, x.from, x.to, n, err)
		}
		if l, err := earn.Months(x.amount, x.from, x.to); len(l) != 0 || err != api.ErrArg {
			t.Errorf("Months(%d, %d, %d) = %v, %d", x.amount, x.from, x.to, l, err)
		}
	}
	for _, day := range far {
		if n, err := earn.By(62, 0, 61, day); n != 0 || err != api.ErrArg {
			t.Errorf("By(62, 0, 61, %d) = %d, %d", day, n, err)
		}
	}
}

// P2: two results share no memory.
func TestMemory(t *testing.T) {
	a, _ := earn.Months(62, 0, 61)
	want := slices.Clone(a)
	b, _ := earn.Months(62, 0, 61)
	b = b[:cap(b)]
	for i := range b {
		b[i] = -7
	}
	c, _ := earn.Months(62, 0, 61)
	if !slices.Equal(a, want) || !slices.Equal(c, want) {
		t.Errorf("%v and %v; want %v", a, c, want)
	}
}
