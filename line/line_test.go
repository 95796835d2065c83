package line_test

import (
	"math"
	"math/big"
	"math/rand"
	"slices"
	"testing"

	"tallage/api"
	"tallage/line"
)

type method func(cost, rest, n int) ([]int, api.Errno)

// near is the quotient of P20 and P21 in numbers without bounds: the greatest
// integer that is not greater than the quotient and a half.
func near(amount, times, den int) int {
	num := new(big.Int).Mul(big.NewInt(int64(amount)), big.NewInt(int64(2*times)))
	num.Add(num, big.NewInt(int64(den)))
	return int(num.Div(num, big.NewInt(int64(2*den))).Int64())
}

// straight is the accumulated depreciation of P20.
func straight(amount, n, k int) int { return near(amount, k, n) }

// digits is the accumulated depreciation of P21, with the sums added up.
func digits(amount, n, k int) int {
	greatest, all := 0, 0
	for i := 1; i <= n; i++ {
		all += i
		if i > n-k {
			greatest += i
		}
	}
	return near(amount, greatest, all)
}

// eachInput calls f with small costs, costs at the bounds and costs at random,
// for every number of periods.
func eachInput(f func(cost, rest, n int)) {
	r := rand.New(rand.NewSource(7))
	for n := 1; n <= api.MaxParts; n++ {
		for cost := range 25 {
			for rest := 0; rest <= cost; rest += 1 + cost/8 {
				f(cost, rest, n)
			}
		}
		for i := range 25 {
			f(api.MaxMoney-i, 0, n)
			f(api.MaxMoney, i, n)
			f(api.MaxMoney, api.MaxMoney-i, n)
			cost := r.Intn(api.MaxMoney + 1)
			f(cost, r.Intn(cost+1), n)
			f(cost, 0, n)
			f(cost, cost, n)
		}
	}
}

// checkSums compares the sums of the first periods with the accumulated
// depreciation that the document gives.
func checkSums(t *testing.T, name string, f method, accumulated func(amount, n, k int) int) {
	t.Helper()
	eachInput(func(cost, rest, n int) {
		l, err := f(cost, rest, n)
		if len(l) != n || err != api.OK {
			t.Fatalf("%s(%d, %d, %d) = %v, %d", name, cost, rest, n, l, err)
		}
		sum := 0
		for i, part := range l {
			sum += part
			if want := accumulated(cost-rest, n, i+1); part < 0 || sum != want {
				t.Fatalf("%s(%d, %d, %d) = %v: after %d periods %d; want %d", name, cost, rest, n, l, i+1, sum, want)
			}
		}
		if sum != cost-rest {
			t.Fatalf("%s(%d, %d, %d) = %v has the sum %d", name, cost, rest, n, l, sum)
		}
	})
}

// P20: the example, halves, one period, and the bounds.
func TestStraight(t *testing.T) {
	for _, x := range []struct {
		cost, rest, n int
		want          []int
	}{
		{10, 0, 4, []int{3, 2, 3, 2}},
		{110, 100, 4, []int{3, 2, 3, 2}},
		{100, 0, 3, []int{33, 34, 33}},
		{100, 10, 3, []int{30, 30, 30}},
		{1, 0, 2, []int{1, 0}},
		{3, 0, 2, []int{2, 1}},
		{1, 0, 3, []int{0, 1, 0}},
		{2, 0, 3, []int{1, 0, 1}},
		{1, 0, 4, []int{0, 1, 0, 0}},
		{7, 0, 1, []int{7}},
		{7, 7, 2, []int{0, 0}},
		{0, 0, 3, []int{0, 0, 0}},
		{api.MaxMoney, 0, 1, []int{api.MaxMoney}},
		{api.MaxMoney, 0, 3, []int{333333333333, 333333333334, 333333333333}},
		{api.MaxMoney, api.MaxMoney, 1, []int{0}},
		{api.MaxMoney, 0, 40, slices.Repeat([]int{25000000000}, 40)},
		{api.MaxMoney, api.MaxMoney - 1, 40, append(append(make([]int, 19), 1), make([]int, 20)...)},
	} {
		if l, err := line.Straight(x.cost, x.rest, x.n); !slices.Equal(l, x.want) || err != api.OK {
			t.Errorf("Straight(%d, %d, %d) = %v, %d; want %v", x.cost, x.rest, x.n, l, err, x.want)
		}
	}
}

// P20: the accumulated depreciation of every period.
func TestStraightDefinition(t *testing.T) {
	checkSums(t, "Straight", line.Straight, straight)
}

// P21: ordinary inputs, halves, one period, and the bounds.
func TestDigits(t *testing.T) {
	for _, x := range []struct {
		cost, rest, n int
		want          []int
	}{
		{70, 10, 3, []int{30, 20, 10}},
		{60, 0, 3, []int{30, 20, 10}},
		{100, 0, 4, []int{40, 30, 20, 10}},
		{10, 0, 3, []int{5, 3, 2}},
		{100, 0, 3, []int{50, 33, 17}},
		{1, 0, 2, []int{1, 0}},
		{1, 0, 3, []int{1, 0, 0}},
		{2, 0, 4, []int{1, 0, 1, 0}},
		{5, 0, 4, []int{2, 2, 1, 0}},
		{9, 0, 1, []int{9}},
		{9, 9, 2, []int{0, 0}},
		{0, 0, 1, []int{0}},
		{api.MaxMoney, 0, 1, []int{api.MaxMoney}},
		{api.MaxMoney, 0, 2, []int{666666666667, 333333333333}},
		{api.MaxMoney, api.MaxMoney, 3, []int{0, 0, 0}},
	} {
		if l, err := line.Digits(x.cost, x.rest, x.n); !slices.Equal(l, x.want) || err != api.OK {
			t.Errorf("Digits(%d, %d, %d) = %v, %d; want %v", x.cost, x.rest, x.n, l, err, x.want)
		}
	}
}

// P21: the accumulated depreciation of every period.
func TestDigitsDefinition(t *testing.T) {
	checkSums(t, "Digits", line.Digits, digits)
}

// P19: each argument just out of its range and far out of it.
func TestErrors(t *testing.T) {
	for _, x := range []struct{ cost, rest, n int }{
		{-1, 0, 1},
		{-1, -1, 1},
		{-1, -2, 1},
		{api.MaxMoney + 1, 0, 1},
		{math.MaxInt, 0, 1},
		{math.MinInt, 0, 1},
		{math.MinInt, math.MinInt, 1},
		{math.MaxInt, math.MaxInt, 1},
		{10, -1, 4},
		{10, 11, 4},
		{0, 1, 4},
		{0, -1, 4},
		{api.MaxMoney, api.MaxMoney + 1, 4},
		{10, math.MaxInt, 4},
		{10, math.MinInt, 4},
		{10, 0, 0},
		{10, 0, -1},
		{10, 0, 41},
		{10, 0, math.MaxInt},
		{10, 0, math.MinInt},
		{0, 0, 0},
		{math.MinInt, math.MaxInt, math.MinInt},
	} {
		for name, f := range map[string]method{"Straight": line.Straight, "Digits": line.Digits} {
			if l, err := f(x.cost, x.rest, x.n); len(l) != 0 || err != api.ErrArg {
				t.Errorf("%s(%d, %d, %d) = %v, %d", name, x.cost, x.rest, x.n, l, err)
			}
		}
	}
}

// P2: two results share no memory.
func TestMemory(t *testing.T) {
	for name, f := range map[string]method{"Straight": line.Straight, "Digits": line.Digits} {
		a, _ := f(10, 0, 4)
		want := slices.Clone(a)
		b, _ := f(10, 0, 4)
		b = b[:cap(b)]
		for i := range b {
			b[i] = -7
		}
		c, _ := f(10, 0, 4)
		if !slices.Equal(a, want) || !slices.Equal(c, want) {
			t.Errorf("%s: %v and %v; want %v", name, a, c, want)
		}
	}
}
