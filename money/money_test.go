package money_test

import (
	"math"
	"math/big"
	"math/rand"
	"testing"

	"tallage/api"
	"tallage/frac"
	"tallage/money"
)

var ways = []int{api.Down, api.Up, api.Near, api.Even}

// rounded is the rule of P11 for a quotient in numbers without bounds.
func rounded(a, b, den, way int) int {
	num := new(big.Int).Mul(big.NewInt(int64(a)), big.NewInt(int64(b)))
	divisor := big.NewInt(int64(den))
	floor, rest := new(big.Int).DivMod(num, divisor, new(big.Int))
	below := int(floor.Int64())
	if rest.Sign() == 0 {
		return below
	}
	half := new(big.Int).Lsh(rest, 1).Cmp(divisor)
	switch {
	case way == api.Down, way != api.Up && half < 0:
		return below
	case way == api.Up, half > 0:
		return below + 1
	case way == api.Near && num.Sign() > 0, way == api.Even && below%2 != 0:
		return below + 1
	}
	return below
}

// eachInput calls f with small amounts, amounts at the bounds and amounts at
// random, with rates that make halves, and with all modes.
func eachInput(f func(amount, rate, way int)) {
	rates := []int{0, 1, 2, 3, 7, 1000, 10000, 70000, 100000, 125000, 190000, 250000,
		333333, 499999, 500000, 500001, 666667, 750000, 875000, 999998, 999999, 1000000}
	r := rand.New(rand.NewSource(6))
	each := func(amount int) {
		for _, rate := range append([]int{r.Intn(api.MaxWeight + 1)}, rates...) {
			for _, way := range ways {
				f(amount, rate, way)
				f(-amount, rate, way)
			}
		}
	}
	for i := range 260 {
		each(i)
		each(api.MaxMoney - i)
		each(r.Intn(api.MaxMoney + 1))
		each(1000000*r.Intn(1000001) - min(i, 1))
		each(500000 + i)
	}
}

// P16: halves of both signs in every mode, and the bounds.
func TestShare(t *testing.T) {
	for _, x := range []struct {
		amount, rate int
		want         [4]int
	}{
		{125, 100000, [4]int{12, 13, 13, 12}},
		{-125, 100000, [4]int{-13, -12, -13, -12}},
		{135, 100000, [4]int{13, 14, 14, 14}},
		{-135, 100000, [4]int{-14, -13, -14, -14}},
		{5, 100000, [4]int{0, 1, 1, 0}},
		{-5, 100000, [4]int{-1, 0, -1, 0}},
		{15, 100000, [4]int{1, 2, 2, 2}},
		{124, 100000, [4]int{12, 13, 12, 12}},
		{126, 100000, [4]int{12, 13, 13, 13}},
		{-124, 100000, [4]int{-13, -12, -12, -12}},
		{-126, 100000, [4]int{-13, -12, -13, -13}},
		{100, 190000, [4]int{19, 19, 19, 19}},
		{-100, 190000, [4]int{-19, -19, -19, -19}},
		{1, 1, [4]int{0, 1, 0, 0}},
		{-1, 1, [4]int{-1, 0, 0, 0}},
		{1, 499999, [4]int{0, 1, 0, 0}},
		{1, 500000, [4]int{0, 1, 1, 0}},
		{3, 500000, [4]int{1, 2, 2, 2}},
		{1, 500001, [4]int{0, 1, 1, 1}},
		{0, 500000, [4]int{0, 0, 0, 0}},
		{77, 0, [4]int{0, 0, 0, 0}},
		{77, 1000000, [4]int{77, 77, 77, 77}},
		{api.MaxMoney, 1000000, [4]int{api.MaxMoney, api.MaxMoney, api.MaxMoney, api.MaxMoney}},
		{-api.MaxMoney, 1000000, [4]int{-api.MaxMoney, -api.MaxMoney, -api.MaxMoney, -api.MaxMoney}},
		{api.MaxMoney - 1, 999999, [4]int{999998999999, 999999000000, 999998999999, 999998999999}},
		{api.MaxMoney - 1, 500000, [4]int{499999999999, 500000000000, 500000000000, 500000000000}},
		{api.MaxMoney - 3, 500000, [4]int{499999999998, 499999999999, 499999999999, 499999999998}},
	} {
		for way, want := range x.want {
			if n, err := money.Share(x.amount, x.rate, way); n != want || err != api.OK {
				t.Errorf("Share(%d, %d, %d) = %d, %d; want %d", x.amount, x.rate, way, n, err, want)
			}
		}
	}
}

// P16: Share is the rounded quotient, and equal to frac.Round where a fraction
// can hold the product.
func TestShareDefinition(t *testing.T) {
	eachInput(func(amount, rate, way int) {
		want := rounded(amount, rate, 1000000, way)
		n, err := money.Share(amount, rate, way)
		if n != want || err != api.OK {
			t.Fatalf("Share(%d, %d, %d) = %d, %d; want %d", amount, rate, way, n, err, want)
		}
		f := api.Frac{Num: amount * rate, Den: 1000000}
		if r, err := frac.Round(f, way); err == api.OK && r != n {
			t.Fatalf("Share(%d, %d, %d) = %d, and frac.Round is %d", amount, rate, way, n, r)
		}
	})
}

// P17: ordinary amounts, the bounds, and sums beyond them.
func TestWith(t *testing.T) {
	for _, x := range []struct {
		net, rate, way, gross, tax int
		err                        api.Errno
	}{
		{100, 190000, api.Near, 119, 19, api.OK},
		{-100, 190000, api.Near, -119, -19, api.OK},
		{125, 100000, api.Down, 137, 12, api.OK},
		{125, 100000, api.Up, 138, 13, api.OK},
		{125, 100000, api.Near, 138, 13, api.OK},
		{125, 100000, api.Even, 137, 12, api.OK},
		{-125, 100000, api.Down, -138, -13, api.OK},
		{-125, 100000, api.Up, -137, -12, api.OK},
		{0, 1000000, api.Up, 0, 0, api.OK},
		{50, 0, api.Up, 50, 0, api.OK},
		{50, 1000000, api.Down, 100, 50, api.OK},
		{api.MaxMoney, 0, api.Up, api.MaxMoney, 0, api.OK},
		{api.MaxMoney / 2, 1000000, api.Near, api.MaxMoney, api.MaxMoney / 2, api.OK},
		{-api.MaxMoney / 2, 1000000, api.Near, -api.MaxMoney, -api.MaxMoney / 2, api.OK},
		{api.MaxMoney/2 + 1, 1000000, api.Near, 0, 0, api.ErrLarge},
		{-api.MaxMoney/2 - 1, 1000000, api.Near, 0, 0, api.ErrLarge},
		{api.MaxMoney, 1, api.Up, 0, 0, api.ErrLarge},
		{-api.MaxMoney, 1, api.Down, 0, 0, api.ErrLarge},
		{api.MaxMoney, 1000000, api.Down, 0, 0, api.ErrLarge},
		{-api.MaxMoney, 1000000, api.Up, 0, 0, api.ErrLarge},
		// The mode decides whether the sum is within the bounds.
		{999999000001, 1, api.Up, 0, 0, api.ErrLarge},
		{999999000001, 1, api.Near, api.MaxMoney, 999999, api.OK},
		{999999000001, 1, api.Down, api.MaxMoney, 999999, api.OK},
	} {
		gross, tax, err := money.With(x.net, x.rate, x.way)
		if gross != x.gross || tax != x.tax || err != x.err {
			t.Errorf("With(%d, %d, %d) = %d, %d, %d; want %d, %d, %d",
				x.net, x.rate, x.way, gross, tax, err, x.gross, x.tax, x.err)
		}
	}
}

// P17: With is the sum with Share, or ErrLarge.
func TestWithDefinition(t *testing.T) {
	eachInput(func(net, rate, way int) {
		tax := rounded(net, rate, 1000000, way)
		sum, want := net+tax, api.OK
		if sum < -api.MaxMoney || sum > api.MaxMoney {
			sum, tax, want = 0, 0, api.ErrLarge
		}
		if a, b, err := money.With(net, rate, way); a != sum || b != tax || err != want {
			t.Fatalf("With(%d, %d, %d) = %d, %d, %d; want %d, %d, %d", net, rate, way, a, b, err, sum, tax, want)
		}
	})
}

// P18: ordinary amounts, halves of both signs, and the bounds.
func TestWithin(t *testing.T) {
	for _, x := range []struct {
		gross, rate int
		net         [4]int
	}{
		{119, 190000, [4]int{100, 100, 100, 100}},
		{-119, 190000, [4]int{-100, -100, -100, -100}},
		{120, 190000, [4]int{100, 101, 101, 101}},
		{1, 1000000, [4]int{0, 1, 1, 0}},
		{3, 1000000, [4]int{1, 2, 2, 2}},
		{-1, 1000000, [4]int{-1, 0, -1, 0}},
		{-3, 1000000, [4]int{-2, -1, -2, -2}},
		{5, 1000000, [4]int{2, 3, 3, 2}},
		{3, 200000, [4]int{2, 3, 3, 2}},
		{9, 200000, [4]int{7, 8, 8, 8}},
		{-9, 200000, [4]int{-8, -7, -8, -8}},
		{1, 999999, [4]int{0, 1, 1, 1}},
		{1, 1, [4]int{0, 1, 1, 1}},
		{-1, 1, [4]int{-1, 0, -1, -1}},
		{0, 190000, [4]int{0, 0, 0, 0}},
		{77, 0, [4]int{77, 77, 77, 77}},
		{api.MaxMoney, 0, [4]int{api.MaxMoney, api.MaxMoney, api.MaxMoney, api.MaxMoney}},
		{-api.MaxMoney, 1000000, [4]int{-500000000000, -500000000000, -500000000000, -500000000000}},
		{api.MaxMoney, 1, [4]int{999999000000, 999999000001, 999999000001, 999999000001}},
		{api.MaxMoney - 1, 1000000, [4]int{499999999999, 500000000000, 500000000000, 500000000000}},
	} {
		for way, want := range x.net {
			net, tax, err := money.Within(x.gross, x.rate, way)
			if net != want || tax != x.gross-want || err != api.OK {
				t.Errorf("Within(%d, %d, %d) = %d, %d, %d; want %d", x.gross, x.rate, way, net, tax, err, want)
			}
		}
	}
}

// P18: Within is the rounded quotient, and its two parts sum to the whole.
func TestWithinDefinition(t *testing.T) {
	eachInput(func(gross, rate, way int) {
		want := rounded(gross, 1000000, 1000000+rate, way)
		net, tax, err := money.Within(gross, rate, way)
		if net != want || net+tax != gross || err != api.OK {
			t.Fatalf("Within(%d, %d, %d) = %d, %d, %d; want %d", gross, rate, way, net, tax, err, want)
		}
	})
}

// P16 to P18: arguments out of range, also where a sum would be too large.
func TestErrors(t *testing.T) {
	for _, x := range []struct{ amount, rate, way int }{
		{api.MaxMoney + 1, 1, api.Near},
		{-api.MaxMoney - 1, 1, api.Near},
		{api.MaxMoney + 1, 0, api.Down},
		{math.MaxInt, 1, api.Near},
		{math.MinInt, 1, api.Near},
		{1, -1, api.Near},
		{1, 1000001, api.Near},
		{1, math.MaxInt, api.Near},
		{1, math.MinInt, api.Near},
		{0, -1, api.Near},
		{0, -1000000, api.Near},
		{1, 1, -1},
		{1, 1, 4},
		{0, 0, 4},
		{0, 0, math.MaxInt},
		{0, 0, math.MinInt},
		{api.MaxMoney, 1000000, 4},
		{api.MaxMoney, 1000000, -1},
		{api.MaxMoney, 1000001, api.Up},
		{math.MinInt, math.MinInt, math.MinInt},
		{math.MaxInt, math.MaxInt, math.MaxInt},
	} {
		if n, err := money.Share(x.amount, x.rate, x.way); n != 0 || err != api.ErrArg {
			t.Errorf("Share(%d, %d, %d) = %d, %d", x.amount, x.rate, x.way, n, err)
		}
		if a, b, err := money.With(x.amount, x.rate, x.way); a != 0 || b != 0 || err != api.ErrArg {
			t.Errorf("With(%d, %d, %d) = %d, %d, %d", x.amount, x.rate, x.way, a, b, err)
		}
		if a, b, err := money.Within(x.amount, x.rate, x.way); a != 0 || b != 0 || err != api.ErrArg {
			t.Errorf("Within(%d, %d, %d) = %d, %d, %d", x.amount, x.rate, x.way, a, b, err)
		}
	}
}
