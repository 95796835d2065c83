package note_test

import (
	"math"
	"math/big"
	"math/rand"
	"slices"
	"testing"

	"tallage/api"
	"tallage/note"
)

// near is the interest of P24 in numbers without bounds: the greatest integer
// that is not greater than the balance times rate / 10^6 and a half.
func near(balance, rate int) int {
	num := new(big.Int).Mul(big.NewInt(int64(balance)), big.NewInt(int64(2*rate)))
	num.Add(num, big.NewInt(1000000))
	return int(num.Div(num, big.NewInt(2000000)).Int64())
}

// schedule follows P24 for valid arguments.
func schedule(owed, rate, pay int) ([]api.Row, api.Errno) {
	if owed > 0 && pay <= near(owed, rate) {
		return nil, api.ErrSum
	}
	var l []api.Row
	for balance := owed; balance != 0; {
		row := api.Row{Interest: near(balance, rate)}
		row.Off = pay - row.Interest
		if row.Off > balance {
			row.Off = balance
		}
		row.Left = balance - row.Off
		balance = row.Left
		l = append(l, row)
		if len(l) > 40 {
			return nil, api.ErrLarge
		}
	}
	return l, api.OK
}

// eachLoan calls f with small loans, loans at the bounds and loans at random.
func eachLoan(f func(owed, rate int)) {
	rates := []int{0, 1, 499, 500, 501, 12345, 33333, 100000, 250000, 333333, 499999, 500000, 500001, 999999, 1000000}
	for _, rate := range rates {
		for owed := range 45 {
			f(owed, rate)
			f(api.MaxMoney-owed, rate)
		}
	}
	r := rand.New(rand.NewSource(9))
	for range 300 {
		f(r.Intn(api.MaxMoney+1), r.Intn(1000001))
		f(r.Intn(100000), r.Intn(100001))
	}
}

// P24: ordinary loans, rounded interest, an empty schedule, and the bounds.
func TestRows(t *testing.T) {
	for _, x := range []struct {
		owed, rate, pay int
		want            []api.Row
	}{
		{100, 100000, 60, []api.Row{{Interest: 10, Off: 50, Left: 50}, {Interest: 5, Off: 50, Left: 0}}},
		{100, 100000, 58, []api.Row{{Interest: 10, Off: 48, Left: 52}, {Interest: 5, Off: 52, Left: 0}}},
		{100, 100000, 57, []api.Row{{Interest: 10, Off: 47, Left: 53}, {Interest: 5, Off: 52, Left: 1}, {Interest: 0, Off: 1, Left: 0}}},
		{100, 100000, 110, []api.Row{{Interest: 10, Off: 100, Left: 0}}},
		{100, 100000, 109, []api.Row{{Interest: 10, Off: 99, Left: 1}, {Interest: 0, Off: 1, Left: 0}}},
		{100, 100000, 500, []api.Row{{Interest: 10, Off: 100, Left: 0}}},
		{5, 100000, 2, []api.Row{{Interest: 1, Off: 1, Left: 4}, {Interest: 0, Off: 2, Left: 2}, {Interest: 0, Off: 2, Left: 0}}},
		{4, 124999, 9, []api.Row{{Interest: 0, Off: 4, Left: 0}}},
		{4, 125000, 9, []api.Row{{Interest: 1, Off: 4, Left: 0}}},
		{9, 0, 4, []api.Row{{Interest: 0, Off: 4, Left: 5}, {Interest: 0, Off: 4, Left: 1}, {Interest: 0, Off: 1, Left: 0}}},
		{1, 1000000, 2, []api.Row{{Interest: 1, Off: 1, Left: 0}}},
		{3, 1000000, 4, []api.Row{{Interest: 3, Off: 1, Left: 2}, {Interest: 2, Off: 2, Left: 0}}},
		{0, 0, 1, nil},
		{0, 1000000, 2 * api.MaxMoney, nil},
		{api.MaxMoney, 1000000, 2 * api.MaxMoney, []api.Row{{Interest: api.MaxMoney, Off: api.MaxMoney, Left: 0}}},
		{api.MaxMoney, 1000000, 2*api.MaxMoney - 1, []api.Row{{Interest: api.MaxMoney, Off: api.MaxMoney - 1, Left: 1}, {Interest: 1, Off: 1, Left: 0}}},
		{api.MaxMoney, 0, api.MaxMoney, []api.Row{{Interest: 0, Off: api.MaxMoney, Left: 0}}},
		{1, 0, 2 * api.MaxMoney, []api.Row{{Interest: 0, Off: 1, Left: 0}}},
	} {
		if l, err := note.Rows(x.owed, x.rate, x.pay); !slices.Equal(l, x.want) || err != api.OK {
			t.Errorf("Rows(%d, %d, %d) = %v, %d; want %v", x.owed, x.rate, x.pay, l, err, x.want)
		}
	}
}

// P24: the whole schedule, or its error, for payments around those that make a
// difference.
func TestRowsDefinition(t *testing.T) {
	eachLoan(func(owed, rate int) {
		first := near(owed, rate)
		for _, around := range []int{1, first, first + owed/41, first + owed/40, first + owed/7, first + owed} {
			for pay := max(1, around-2); pay <= min(around+2, 2*api.MaxMoney); pay++ {
				l, err := note.Rows(owed, rate, pay)
				want, wantErr := schedule(owed, rate, pay)
				if !slices.Equal(l, want) || err != wantErr {
					t.Fatalf("Rows(%d, %d, %d) = %v, %d; want %v, %d", owed, rate, pay, l, err, want, wantErr)
				}
			}
		}
	})
}

// P24: what is repaid sums to the loan, and 40 rows are not too many.
func TestRowsSum(t *testing.T) {
	for _, x := range []struct{ owed, rate, pay, rows int }{
		{40, 0, 1, 40},
		{80, 0, 2, 40},
		{79, 0, 2, 40},
		{39, 0, 1, 39},
		{api.MaxMoney, 0, 25000000000, 40},
		{api.MaxMoney, 1000000, api.MaxMoney + 1, 40},
	} {
		l, err := note.Rows(x.owed, x.rate, x.pay)
		if len(l) != x.rows || err != api.OK {
			t.Errorf("Rows(%d, %d, %d): %d rows, %d; want %d", x.owed, x.rate, x.pay, len(l), err, x.rows)
		}
		sum := 0
		for _, row := range l {
			sum += row.Off
		}
		if sum != x.owed {
			t.Errorf("Rows(%d, %d, %d) repays %d", x.owed, x.rate, x.pay, sum)
		}
	}
}

// P24: each error, each argument just out of its range and far out of it, and
// the order of the errors.
func TestRowsErrors(t *testing.T) {
	for _, x := range []struct {
		owed, rate, pay int
		want            api.Errno
	}{
		{-1, 0, 1, api.ErrArg},
		{-1, 100000, 60, api.ErrArg},
		{-api.MaxMoney, 0, 1, api.ErrArg},
		{api.MaxMoney + 1, 0, 2 * api.MaxMoney, api.ErrArg},
		{math.MinInt, 0, 1, api.ErrArg},
		{math.MaxInt, 0, 1, api.ErrArg},
		{100, -1, 60, api.ErrArg},
		{100, 1000001, 2000, api.ErrArg},
		{100, math.MinInt, 60, api.ErrArg},
		{100, math.MaxInt, 60, api.ErrArg},
		{0, -1, 1, api.ErrArg},
		{0, 1000001, 1, api.ErrArg},
		{100, 100000, 0, api.ErrArg},
		{100, 100000, -1, api.ErrArg},
		{100, 100000, 2*api.MaxMoney + 1, api.ErrArg},
		{100, 100000, math.MinInt, api.ErrArg},
		{100, 100000, math.MaxInt, api.ErrArg},
		{0, 0, 0, api.ErrArg},
		{0, 0, 2*api.MaxMoney + 1, api.ErrArg},
		{math.MinInt, math.MaxInt, math.MinInt, api.ErrArg},
		{100, 100000, 1, api.ErrSum},
		{100, 100000, 9, api.ErrSum},
		{100, 100000, 10, api.ErrSum},
		{1000, 1000, 1, api.ErrSum},
		{5, 100000, 1, api.ErrSum},
		{api.MaxMoney, 1000000, api.MaxMoney, api.ErrSum},
		{api.MaxMoney, 1000000, 1, api.ErrSum},
		{100, 100000, 11, api.OK},
		{1000, 100000, 101, api.ErrLarge},
		{41, 0, 1, api.ErrLarge},
		{81, 0, 2, api.ErrLarge},
		{100, 0, 2, api.ErrLarge},
		{api.MaxMoney, 0, 1, api.ErrLarge},
		{api.MaxMoney, 0, 24999999999, api.ErrLarge},
	} {
		l, err := note.Rows(x.owed, x.rate, x.pay)
		if err != x.want || err != api.OK && len(l) != 0 {
			t.Errorf("Rows(%d, %d, %d) = %v, %d; want %d", x.owed, x.rate, x.pay, l, err, x.want)
		}
	}
}

// P25: the example, one period, no loan, no interest, and the bounds.
func TestLeast(t *testing.T) {
	for _, x := range []struct{ owed, rate, n, want int }{
		{100, 100000, 2, 58},
		{100, 100000, 1, 110},
		{100, 0, 1, 100},
		{100, 0, 2, 50},
		{100, 0, 3, 34},
		{100, 0, 40, 3},
		{40, 0, 40, 1},
		{41, 0, 40, 2},
		{0, 0, 1, 1},
		{0, 1000000, 40, 1},
		{1, 0, 1, 1},
		{1, 0, 40, 1},
		{1, 499999, 1, 1},
		{1, 500000, 1, 2},
		{1, 500000, 40, 2},
		{5, 100000, 1, 6},
		{5, 100000, 3, 2},
		{5, 100000, 40, 2},
		{3, 1000000, 2, 4},
		{api.MaxMoney, 0, 1, api.MaxMoney},
		{api.MaxMoney, 0, 40, 25000000000},
		{api.MaxMoney, 1000000, 1, 2 * api.MaxMoney},
		{api.MaxMoney, 1000000, 2, 1333333333334},
		{api.MaxMoney, 1000000, 40, api.MaxMoney + 1},
	} {
		if pay, err := note.Least(x.owed, x.rate, x.n); pay != x.want || err != api.OK {
			t.Errorf("Least(%d, %d, %d) = %d, %d; want %d", x.owed, x.rate, x.n, pay, err, x.want)
		}
	}
}

// P25: on small loans, the first payment from 1 on that suffices.
func TestLeastFromOne(t *testing.T) {
	for _, rate := range []int{0, 10000, 49999, 50000, 125000, 333333, 500000, 750000, 1000000} {
		for owed := range 60 {
			for n := 1; n <= api.MaxParts; n++ {
				want := 1
				for {
					l, err := schedule(owed, rate, want)
					if err == api.OK && len(l) <= n {
						break
					}
					want++
				}
				if pay, err := note.Least(owed, rate, n); pay != want || err != api.OK {
					t.Fatalf("Least(%d, %d, %d) = %d, %d; want %d", owed, rate, n, pay, err, want)
				}
			}
		}
	}
}

// P25: the payment suffices, and those below it do not.
func TestLeastSuffices(t *testing.T) {
	r := rand.New(rand.NewSource(25))
	eachLoan(func(owed, rate int) {
		n := 1 + r.Intn(api.MaxParts)
		pay, err := note.Least(owed, rate, n)
		if pay < 1 || err != api.OK {
			t.Fatalf("Least(%d, %d, %d) = %d, %d", owed, rate, n, pay, err)
		}
		if l, err := schedule(owed, rate, pay); len(l) > n || err != api.OK {
			t.Fatalf("Least(%d, %d, %d) = %d, which leads to %d rows, %d", owed, rate, n, pay, len(l), err)
		}
		for less := pay - 1; less > max(0, pay-20); less-- {
			if l, err := schedule(owed, rate, less); err == api.OK && len(l) <= n {
				t.Fatalf("Least(%d, %d, %d) = %d, but %d suffices", owed, rate, n, pay, less)
			}
		}
	})
}

// P25: each argument just out of its range and far out of it.
func TestLeastErrors(t *testing.T) {
	for _, x := range []struct{ owed, rate, n int }{
		{-1, 0, 1},
		{-100, 100000, 2},
		{-api.MaxMoney, 0, 1},
		{api.MaxMoney + 1, 0, 1},
		{math.MinInt, 0, 1},
		{math.MaxInt, 0, 1},
		{100, -1, 2},
		{100, 1000001, 2},
		{100, math.MinInt, 2},
		{100, math.MaxInt, 2},
		{0, -1, 2},
		{0, 1000001, 2},
		{100, 100000, 0},
		{100, 100000, -1},
		{100, 100000, 41},
		{100, 100000, math.MinInt},
		{100, 100000, math.MaxInt},
		{0, 0, 0},
		{0, 0, 41},
		{math.MinInt, math.MaxInt, math.MinInt},
	} {
		if pay, err := note.Least(x.owed, x.rate, x.n); pay != 0 || err != api.ErrArg {
			t.Errorf("Least(%d, %d, %d) = %d, %d", x.owed, x.rate, x.n, pay, err)
		}
	}
}

// P2: two results share no memory.
func TestMemory(t *testing.T) {
	a, _ := note.Rows(100, 100000, 40)
	want := slices.Clone(a)
	b, _ := note.Rows(100, 100000, 40)
	b = b[:cap(b)]
	for i := range b {
		b[i] = api.Row{Interest: -7, Off: -7, Left: -7}
	}
	c, _ := note.Rows(100, 100000, 40)
	if len(want) != 4 || !slices.Equal(a, want) || !slices.Equal(c, want) {
		t.Errorf("%v and %v; want %v", a, c, want)
	}
}
