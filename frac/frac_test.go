package frac_test

import (
	"math"
	"math/big"
	"math/rand"
	"testing"

	"tallage/api"
	"tallage/frac"
)

func of(num, den int) api.Frac { return api.Frac{Num: num, Den: den} }

func rat(f api.Frac) *big.Rat { return big.NewRat(int64(f.Num), int64(f.Den)) }

var badFracs = []struct {
	f   api.Frac
	err api.Errno
}{
	{of(0, 0), api.ErrZero},
	{of(1, 0), api.ErrZero},
	{of(api.MaxMoney+1, 0), api.ErrZero},
	{of(math.MinInt, 0), api.ErrZero},
	{of(math.MaxInt, 0), api.ErrZero},
	{of(1, -1), api.ErrArg},
	{of(0, -1), api.ErrArg},
	{of(1, math.MinInt), api.ErrArg},
	{of(1, api.MaxWeight+1), api.ErrArg},
	{of(1, math.MaxInt), api.ErrArg},
	{of(api.MaxMoney+1, 1), api.ErrArg},
	{of(-api.MaxMoney-1, 1), api.ErrArg},
	{of(math.MinInt, 1), api.ErrArg},
	{of(math.MaxInt, 1), api.ErrArg},
	{of(math.MinInt, math.MinInt), api.ErrArg},
	{of(math.MaxInt, -1), api.ErrArg},
}

// sample has fractions at the bounds, small ones, and some at random.
func sample() []api.Frac {
	nums := []int{0, 1, -1, 2, 3, -6, 999983, 1000000, 1000003, -1000003, api.MaxMoney, -api.MaxMoney, api.MaxMoney - 1}
	dens := []int{1, 2, 3, 6, 7, 999983, 999999, 1000000}
	var l []api.Frac
	for _, n := range nums {
		for _, d := range dens {
			l = append(l, of(n, d))
		}
	}
	r := rand.New(rand.NewSource(1))
	for range 60 {
		l = append(l, of(r.Intn(2*api.MaxMoney+1)-api.MaxMoney, 1+r.Intn(api.MaxWeight)))
		l = append(l, of(r.Intn(2001)-1000, 1+r.Intn(1000)))
	}
	return l
}

// exact is what P9 says of a result that is a given number.
func exact(r *big.Rat) (api.Frac, api.Errno) {
	num, den := r.Num(), r.Denom()
	if num.CmpAbs(big.NewInt(api.MaxMoney)) > 0 || den.Cmp(big.NewInt(api.MaxWeight)) > 0 {
		return api.Frac{}, api.ErrLarge
	}
	return of(int(num.Int64()), int(den.Int64())), api.OK
}

// P8: the bounds of numerator and denominator.
func TestCheck(t *testing.T) {
	for _, x := range badFracs {
		if err := frac.Check(x.f); err != x.err {
			t.Errorf("Check(%v) = %d; want %d", x.f, err, x.err)
		}
	}
	for _, f := range []api.Frac{
		of(0, 1), of(5, 2), of(-5, 2), of(2, 4), of(0, api.MaxWeight), of(api.MaxMoney, 1), of(-api.MaxMoney, 1),
		of(api.MaxMoney, api.MaxWeight), of(-api.MaxMoney, api.MaxWeight),
	} {
		if err := frac.Check(f); err != api.OK {
			t.Errorf("Check(%v) = %d; want OK", f, err)
		}
	}
}

// P8: the other functions return the error of Check.
func TestBadFractions(t *testing.T) {
	for _, x := range badFracs {
		if f, err := frac.Norm(x.f); f != (api.Frac{}) || err != x.err {
			t.Errorf("Norm(%v) = %v, %d; want error %d", x.f, f, err, x.err)
		}
		for _, way := range []int{api.Down, api.Up, api.Near, api.Even, -1, 4} {
			if n, err := frac.Round(x.f, way); n != 0 || err != x.err {
				t.Errorf("Round(%v, %d) = %d, %d; want error %d", x.f, way, n, err, x.err)
			}
		}
		good := of(1, 2)
		wantPair(t, x.f, good, x.err)
		wantPair(t, good, x.f, x.err)
		wantPair(t, of(0, 1), x.f, x.err)
	}
}

// P8: of two bad fractions, the first one determines the error.
func TestTwoBadFractions(t *testing.T) {
	for _, a := range badFracs {
		for _, b := range badFracs {
			wantPair(t, a.f, b.f, a.err)
		}
	}
}

func wantPair(t *testing.T, a, b api.Frac, want api.Errno) {
	t.Helper()
	if f, err := frac.Add(a, b); f != (api.Frac{}) || err != want {
		t.Errorf("Add(%v, %v) = %v, %d; want error %d", a, b, f, err, want)
	}
	if f, err := frac.Mul(a, b); f != (api.Frac{}) || err != want {
		t.Errorf("Mul(%v, %v) = %v, %d; want error %d", a, b, f, err, want)
	}
	if c, err := frac.Cmp(a, b); c != 0 || err != want {
		t.Errorf("Cmp(%v, %v) = %d, %d; want error %d", a, b, c, err, want)
	}
}

// P9: lowest terms, and 0 as 0/1.
func TestNorm(t *testing.T) {
	for _, x := range []struct{ f, want api.Frac }{
		{of(2, 4), of(1, 2)},
		{of(-2, 4), of(-1, 2)},
		{of(1, 2), of(1, 2)},
		{of(6, 3), of(2, 1)},
		{of(4, 6), of(2, 3)},
		{of(0, 1), of(0, 1)},
		{of(0, 7), of(0, 1)},
		{of(0, api.MaxWeight), of(0, 1)},
		{of(api.MaxMoney, api.MaxWeight), of(1000000, 1)},
		{of(-api.MaxMoney, api.MaxWeight), of(-1000000, 1)},
		{of(api.MaxMoney, 1), of(api.MaxMoney, 1)},
		{of(999999999999, 999999), of(1000001, 1)},
		{of(api.MaxMoney, 999999), of(api.MaxMoney, 999999)},
	} {
		if f, err := frac.Norm(x.f); f != x.want || err != api.OK {
			t.Errorf("Norm(%v) = %v, %d; want %v", x.f, f, err, x.want)
		}
	}
	for _, f := range sample() {
		want, _ := exact(rat(f))
		if got, err := frac.Norm(f); got != want || err != api.OK {
			t.Errorf("Norm(%v) = %v, %d; want %v", f, got, err, want)
		}
	}
}

// P9: sums, and the bounds of the reduced result.
func TestAdd(t *testing.T) {
	for _, x := range []struct {
		a, b, want api.Frac
		err        api.Errno
	}{
		{of(1, 6), of(1, 3), of(1, 2), api.OK},
		{of(1, 2), of(-1, 2), of(0, 1), api.OK},
		{of(-1, 2), of(-1, 2), of(-1, 1), api.OK},
		{of(0, 5), of(0, 3), of(0, 1), api.OK},
		{of(0, 9), of(2, 4), of(1, 2), api.OK},
		{of(1, 1000000), of(1, 1000000), of(1, 500000), api.OK},
		{of(1, 999999), of(-1, 999999), of(0, 1), api.OK},
		{of(api.MaxMoney, 1), of(-api.MaxMoney, 1), of(0, 1), api.OK},
		{of(api.MaxMoney, 1), of(0, api.MaxWeight), of(api.MaxMoney, 1), api.OK},
		{of(api.MaxMoney, 2), of(api.MaxMoney, 2), of(api.MaxMoney, 1), api.OK},
		{of(api.MaxMoney, 1), of(1, 1), of(0, 0), api.ErrLarge},
		{of(-api.MaxMoney, 1), of(-1, 1), of(0, 0), api.ErrLarge},
		{of(api.MaxMoney, 1), of(1, 2), of(0, 0), api.ErrLarge},
		{of(1, 999999), of(1, 1000000), of(0, 0), api.ErrLarge},
		{of(1, 1000), of(1, 1001), of(0, 0), api.ErrLarge},
		{of(1, 999), of(1, 1000), of(1999, 999000), api.OK},
		{of(api.MaxMoney, 1), of(api.MaxMoney, 1), of(0, 0), api.ErrLarge},
		{of(api.MaxMoney, 1000000), of(api.MaxMoney, 999999), of(0, 0), api.ErrLarge},
	} {
		if f, err := frac.Add(x.a, x.b); f != x.want || err != x.err {
			t.Errorf("Add(%v, %v) = %v, %d; want %v, %d", x.a, x.b, f, err, x.want, x.err)
		}
	}
}

// P9: products, and the bounds of the reduced result.
func TestMul(t *testing.T) {
	for _, x := range []struct {
		a, b, want api.Frac
		err        api.Errno
	}{
		{of(-4, 6), of(3, 4), of(-1, 2), api.OK},
		{of(-1, 2), of(-2, 3), of(1, 3), api.OK},
		{of(0, 7), of(5, 3), of(0, 1), api.OK},
		{of(5, 3), of(0, 7), of(0, 1), api.OK},
		{of(0, api.MaxWeight), of(0, 999999), of(0, 1), api.OK},
		{of(0, 1), of(api.MaxMoney, 1), of(0, 1), api.OK},
		{of(api.MaxMoney, 1), of(1, api.MaxWeight), of(1000000, 1), api.OK},
		{of(api.MaxMoney, 1000000), of(api.MaxMoney, 1000000), of(api.MaxMoney, 1), api.OK},
		{of(-api.MaxMoney, 1000000), of(api.MaxMoney, 1000000), of(-api.MaxMoney, 1), api.OK},
		{of(api.MaxMoney, 7), of(7, 1), of(api.MaxMoney, 1), api.OK},
		{of(1, 1000), of(1, 1000), of(1, 1000000), api.OK},
		{of(1, 1000), of(1, 1001), of(0, 0), api.ErrLarge},
		{of(1, api.MaxWeight), of(1, api.MaxWeight), of(0, 0), api.ErrLarge},
		{of(api.MaxMoney, 1), of(2, 1), of(0, 0), api.ErrLarge},
		{of(-api.MaxMoney, 1), of(2, 1), of(0, 0), api.ErrLarge},
		{of(1000001, 1), of(1000000, 1), of(0, 0), api.ErrLarge},
		{of(1000000, 1), of(1000000, 1), of(api.MaxMoney, 1), api.OK},
		// These products wrap to small numbers in 64 bits.
		{of(1<<32, 1), of(1<<32, 1), of(0, 0), api.ErrLarge},
		{of(1<<39, 1), of(-1<<39, 1), of(0, 0), api.ErrLarge},
		{of(api.MaxMoney, 1), of(api.MaxMoney, 1), of(0, 0), api.ErrLarge},
	} {
		if f, err := frac.Mul(x.a, x.b); f != x.want || err != x.err {
			t.Errorf("Mul(%v, %v) = %v, %d; want %v, %d", x.a, x.b, f, err, x.want, x.err)
		}
	}
}

// P9 and P10: every pair of the sample, against package math/big.
func TestPairs(t *testing.T) {
	l := sample()
	for _, a := range l {
		for _, b := range l {
			want, wantErr := exact(new(big.Rat).Add(rat(a), rat(b)))
			if f, err := frac.Add(a, b); f != want || err != wantErr {
				t.Fatalf("Add(%v, %v) = %v, %d; want %v, %d", a, b, f, err, want, wantErr)
			}
			want, wantErr = exact(new(big.Rat).Mul(rat(a), rat(b)))
			if f, err := frac.Mul(a, b); f != want || err != wantErr {
				t.Fatalf("Mul(%v, %v) = %v, %d; want %v, %d", a, b, f, err, want, wantErr)
			}
			if c, err := frac.Cmp(a, b); c != rat(a).Cmp(rat(b)) || err != api.OK {
				t.Fatalf("Cmp(%v, %v) = %d, %d; want %d", a, b, c, err, rat(a).Cmp(rat(b)))
			}
		}
	}
}

// P10: fractions are compared as numbers.
func TestCmp(t *testing.T) {
	for _, x := range []struct {
		a, b api.Frac
		want int
	}{
		{of(2, 4), of(1, 2), 0},
		{of(0, 5), of(0, 7), 0},
		{of(1, 3), of(1, 2), -1},
		{of(1, 2), of(1, 3), 1},
		{of(-1, 3), of(-1, 2), 1},
		{of(-1, 2), of(1, 1000000), -1},
		{of(7, 1000000), of(7, 999999), -1},
		{of(api.MaxMoney, 999999), of(api.MaxMoney, 1000000), 1},
		{of(api.MaxMoney, 1), of(-api.MaxMoney, 1), 1},
		{of(-api.MaxMoney, 1), of(api.MaxMoney, 1), -1},
		{of(api.MaxMoney, 1000000), of(1000000, 1), 0},
	} {
		if c, err := frac.Cmp(x.a, x.b); c != x.want || err != api.OK {
			t.Errorf("Cmp(%v, %v) = %d, %d; want %d", x.a, x.b, c, err, x.want)
		}
	}
}

// P11: the four modes, with halves and negative numbers.
func TestRound(t *testing.T) {
	for _, x := range []struct {
		f    api.Frac
		want [4]int // by mode: Down, Up, Near, Even
	}{
		{of(5, 2), [4]int{2, 3, 3, 2}},
		{of(-5, 2), [4]int{-3, -2, -3, -2}},
		{of(7, 2), [4]int{3, 4, 4, 4}},
		{of(-7, 2), [4]int{-4, -3, -4, -4}},
		{of(1, 2), [4]int{0, 1, 1, 0}},
		{of(-1, 2), [4]int{-1, 0, -1, 0}},
		{of(10, 4), [4]int{2, 3, 3, 2}},
		{of(1, 3), [4]int{0, 1, 0, 0}},
		{of(2, 3), [4]int{0, 1, 1, 1}},
		{of(-1, 3), [4]int{-1, 0, 0, 0}},
		{of(-2, 3), [4]int{-1, 0, -1, -1}},
		{of(0, 3), [4]int{0, 0, 0, 0}},
		{of(6, 3), [4]int{2, 2, 2, 2}},
		{of(-6, 3), [4]int{-2, -2, -2, -2}},
		{of(499999, 1000000), [4]int{0, 1, 0, 0}},
		{of(500000, 1000000), [4]int{0, 1, 1, 0}},
		{of(500001, 1000000), [4]int{0, 1, 1, 1}},
		{of(-499999, 999999), [4]int{-1, 0, 0, 0}},
		{of(-500000, 999999), [4]int{-1, 0, -1, -1}},
		{of(api.MaxMoney, 1), [4]int{api.MaxMoney, api.MaxMoney, api.MaxMoney, api.MaxMoney}},
		{of(-api.MaxMoney, 1), [4]int{-api.MaxMoney, -api.MaxMoney, -api.MaxMoney, -api.MaxMoney}},
	} {
		for way, want := range x.want {
			if n, err := frac.Round(x.f, way); n != want || err != api.OK {
				t.Errorf("Round(%v, %d) = %d, %d; want %d", x.f, way, n, err, want)
			}
		}
	}
}

// P11: the definitions of the modes, on all small fractions and the sample.
func TestRoundByDefinition(t *testing.T) {
	l := sample()
	for num := -60; num <= 60; num++ {
		for den := 1; den <= 20; den++ {
			l = append(l, of(num, den))
		}
	}
	for _, f := range l {
		var got [4]int
		for way := range got {
			n, err := frac.Round(f, way)
			if err != api.OK {
				t.Fatalf("Round(%v, %d): error %d", f, way, err)
			}
			got[way] = n
		}
		if n := got[api.Down]; n*f.Den > f.Num || (n+1)*f.Den <= f.Num {
			t.Errorf("Round(%v, Down) = %d", f, n)
		}
		if n := got[api.Up]; n*f.Den < f.Num || (n-1)*f.Den >= f.Num {
			t.Errorf("Round(%v, Up) = %d", f, n)
		}
		for _, way := range []int{api.Near, api.Even} {
			off := 2 * (got[way]*f.Den - f.Num)
			if off < -f.Den || off > f.Den {
				t.Errorf("Round(%v, %d) = %d", f, way, got[way])
			}
			tie := off == f.Den || off == -f.Den
			if tie && way == api.Near && (off > 0) != (f.Num > 0) {
				t.Errorf("Round(%v, Near) = %d, the one nearer to 0", f, got[way])
			}
			if tie && way == api.Even && got[way]%2 != 0 {
				t.Errorf("Round(%v, Even) = %d, the odd one", f, got[way])
			}
		}
	}
}

// P11: modes that do not exist.
func TestRoundMode(t *testing.T) {
	for _, way := range []int{math.MinInt, -1, 4, 5, math.MaxInt} {
		for _, f := range []api.Frac{of(5, 2), of(0, 1), of(4, 2)} {
			if n, err := frac.Round(f, way); n != 0 || err != api.ErrArg {
				t.Errorf("Round(%v, %d) = %d, %d; want ErrArg", f, way, n, err)
			}
		}
	}
}
