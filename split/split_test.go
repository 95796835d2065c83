package split_test

import (
	"math"
	"math/big"
	"math/rand"
	"slices"
	"testing"

	"tallage/api"
	"tallage/split"
)

func repeat(n, times int) []int { return slices.Repeat([]int{n}, times) }

func total(l []int) int {
	s := 0
	for _, n := range l {
		s += n
	}
	return s
}

func negated(l []int) []int {
	r := slices.Clone(l)
	for i := range r {
		r[i] = -r[i]
	}
	return r
}

// hamilton is the rule of P12 for an amount that is not negative, in numbers
// without bounds, giving one unit after the other.
func hamilton(amount int, weights []int) []int {
	sum := big.NewInt(int64(total(weights)))
	parts := make([]int, len(weights))
	rests := make([]*big.Int, len(weights))
	for i, w := range weights {
		product := new(big.Int).Mul(big.NewInt(int64(amount)), big.NewInt(int64(w)))
		part, rest := new(big.Int).DivMod(product, sum, new(big.Int))
		parts[i], rests[i] = int(part.Int64()), rest
	}
	for left := amount - total(parts); left > 0; left-- {
		best := 0
		for i := range rests {
			if rests[i].Cmp(rests[best]) > 0 {
				best = i
			}
		}
		parts[best]++
		rests[best] = big.NewInt(-1)
	}
	return parts
}

// P12: ordinary amounts, equal remainders, weights of 0 and the bounds.
func TestBy(t *testing.T) {
	for _, x := range []struct {
		amount  int
		l, want []int
	}{
		{10, []int{1, 1, 1}, []int{4, 3, 3}},
		{11, []int{1, 1, 1}, []int{4, 4, 3}},
		{12, []int{1, 1, 1}, []int{4, 4, 4}},
		{10, []int{2, 1}, []int{7, 3}},
		{10, []int{1, 2}, []int{3, 7}},
		{100, []int{50, 30, 20, 0}, []int{50, 30, 20, 0}},
		{1, []int{0, 0, 1, 0}, []int{0, 0, 1, 0}},
		{1, []int{0, 1, 1}, []int{0, 1, 0}},
		{1, []int{1, 1, 1, 1}, []int{1, 0, 0, 0}},
		{3, []int{1, 1, 1, 1}, []int{1, 1, 1, 0}},
		{1, []int{1, 2, 3}, []int{0, 0, 1}},
		{7, []int{1, 3, 2, 3}, []int{1, 2, 2, 2}},
		{100, []int{1, 1, 4}, []int{17, 17, 66}},
		{0, []int{1}, []int{0}},
		{0, []int{1, 0, 2}, []int{0, 0, 0}},
		{5, []int{1000000}, []int{5}},
		{api.MaxMoney, []int{1000000}, []int{api.MaxMoney}},
		{api.MaxMoney, []int{1000000, 1, 1000000}, []int{499999750000, 500000, 499999750000}},
		{api.MaxMoney, []int{1000000, 1000000, 1000000}, []int{333333333334, 333333333333, 333333333333}},
		{api.MaxMoney, repeat(1000000, 40), repeat(25000000000, 40)},
		{39, repeat(7, 40), append(repeat(1, 39), 0)},
	} {
		if l, err := split.By(x.amount, x.l); !slices.Equal(l, x.want) || err != api.OK {
			t.Errorf("By(%d, %v) = %v, %d; want %v", x.amount, x.l, l, err, x.want)
		}
		if l, err := split.By(-x.amount, x.l); !slices.Equal(l, negated(x.want)) || err != api.OK {
			t.Errorf("By(%d, %v) = %v, %d; want %v", -x.amount, x.l, l, err, negated(x.want))
		}
	}
}

// P12: all short lists of small weights, and large ones at random.
func TestByDefinition(t *testing.T) {
	check := func(amount int, l []int) {
		t.Helper()
		want := hamilton(amount, l)
		if got, err := split.By(amount, l); !slices.Equal(got, want) || err != api.OK {
			t.Fatalf("By(%d, %v) = %v, %d; want %v", amount, l, got, err, want)
		}
		if got, err := split.By(-amount, l); !slices.Equal(got, negated(want)) || err != api.OK {
			t.Fatalf("By(%d, %v) = %v, %d; want %v", -amount, l, got, err, negated(want))
		}
		if total(want) != amount {
			t.Fatalf("parts %v of %d", want, amount)
		}
	}
	for code := 1; code < 5*5*5*5; code++ {
		l := []int{code % 5, code / 5 % 5, code / 25 % 5, code / 125}
		for amount := range 25 {
			check(amount, l)
		}
	}
	r := rand.New(rand.NewSource(2))
	for range 2000 {
		l := make([]int, 1+r.Intn(api.MaxParts))
		for i := range l {
			l[i] = r.Intn(api.MaxWeight + 1)
		}
		l[0] = max(l[0], 1)
		check(r.Intn(api.MaxMoney+1), l)
		check(api.MaxMoney, l)
		check(r.Intn(50), l)
		// Few different weights make many equal remainders.
		for i := range l {
			l[i] = 1 + r.Intn(3)
		}
		check(r.Intn(1000), l)
	}
}

// P12: the errors, and which of several is returned.
func TestByErrors(t *testing.T) {
	for _, x := range []struct {
		amount int
		l      []int
		err    api.Errno
	}{
		{1, repeat(1, 41), api.ErrLarge},
		{1, repeat(0, 41), api.ErrLarge},
		{1, repeat(-1, 41), api.ErrLarge},
		{math.MinInt, repeat(1, 41), api.ErrLarge},
		{1, repeat(1, 1000), api.ErrLarge},
		{1, []int{-1}, api.ErrArg},
		{1, []int{1, 1000001}, api.ErrArg},
		{1, []int{0, -1}, api.ErrArg},
		{0, []int{1, math.MinInt}, api.ErrArg},
		{0, []int{math.MaxInt, math.MaxInt}, api.ErrArg},
		{1, []int{2, -1, 2}, api.ErrArg},
		{1, append(repeat(1, 39), -1), api.ErrArg},
		{api.MaxMoney + 1, []int{1}, api.ErrArg},
		{-api.MaxMoney - 1, []int{1}, api.ErrArg},
		{math.MinInt, []int{1}, api.ErrArg},
		{math.MaxInt, []int{1}, api.ErrArg},
		{api.MaxMoney + 1, []int{0}, api.ErrArg},
		{api.MaxMoney + 1, nil, api.ErrArg},
		{math.MinInt, []int{}, api.ErrArg},
		{1, nil, api.ErrZero},
		{0, nil, api.ErrZero},
		{0, []int{}, api.ErrZero},
		{1, []int{0}, api.ErrZero},
		{0, repeat(0, 40), api.ErrZero},
		{-1, []int{0, 0}, api.ErrZero},
	} {
		if l, err := split.By(x.amount, x.l); len(l) != 0 || err != x.err {
			t.Errorf("By(%d, %v) = %v, %d; want error %d", x.amount, x.l, l, err, x.err)
		}
	}
}

// P2: By leaves the weights as they are, and its result is new memory.
func TestByMemory(t *testing.T) {
	room := []int{3, 1, 2, 77, 78, 79}
	weights := room[:3]
	for _, amount := range []int{11, -11, 0} {
		a, _ := split.By(amount, weights)
		b, _ := split.By(amount, weights)
		want := slices.Clone(b)
		a = a[:cap(a)]
		for i := range a {
			a[i] = 1000
		}
		if !slices.Equal(b, want) {
			t.Errorf("two results of By(%d, ..) share memory", amount)
		}
		if !slices.Equal(room, []int{3, 1, 2, 77, 78, 79}) {
			t.Fatalf("By(%d, ..) changed its argument to %v", amount, room)
		}
	}
}

// P13: ordinary amounts and the bounds.
func TestEven(t *testing.T) {
	for _, x := range []struct {
		amount, n int
		want      []int
	}{
		{10, 3, []int{3, 3, 4}},
		{10, 4, []int{2, 3, 2, 3}},
		{11, 3, []int{3, 4, 4}},
		{12, 3, []int{4, 4, 4}},
		{5, 2, []int{2, 3}},
		{7, 1, []int{7}},
		{0, 3, []int{0, 0, 0}},
		{1, 3, []int{0, 0, 1}},
		{2, 3, []int{0, 1, 1}},
		{2, 5, []int{0, 0, 1, 0, 1}},
		{1, 40, append(repeat(0, 39), 1)},
		{39, 40, append([]int{0}, repeat(1, 39)...)},
		{api.MaxMoney, 1, []int{api.MaxMoney}},
		{api.MaxMoney, 3, []int{333333333333, 333333333333, 333333333334}},
		{api.MaxMoney, 40, repeat(25000000000, 40)},
	} {
		if l, err := split.Even(x.amount, x.n); !slices.Equal(l, x.want) || err != api.OK {
			t.Errorf("Even(%d, %d) = %v, %d; want %v", x.amount, x.n, l, err, x.want)
		}
		if l, err := split.Even(-x.amount, x.n); !slices.Equal(l, negated(x.want)) || err != api.OK {
			t.Errorf("Even(%d, %d) = %v, %d; want %v", -x.amount, x.n, l, err, negated(x.want))
		}
	}
}

// P13: after k parts, amount*k/n has been given, for every number of parts.
func TestEvenSums(t *testing.T) {
	amounts := []int{api.MaxMoney, api.MaxMoney - 1, 999999999989, 123456789012}
	for a := range 200 {
		amounts = append(amounts, a)
	}
	for n := 1; n <= api.MaxParts; n++ {
		for _, amount := range amounts {
			l, err := split.Even(amount, n)
			if len(l) != n || err != api.OK {
				t.Fatalf("Even(%d, %d) = %v, %d", amount, n, l, err)
			}
			given := 0
			for i, part := range l {
				given += part
				if given != amount*(i+1)/n {
					t.Fatalf("Even(%d, %d) = %v: %d after %d parts", amount, n, l, given, i+1)
				}
			}
			if minus, err := split.Even(-amount, n); !slices.Equal(minus, negated(l)) || err != api.OK {
				t.Fatalf("Even(%d, %d) = %v, %d", -amount, n, minus, err)
			}
		}
	}
}

// P13: amounts out of range, and numbers of parts that do not exist.
func TestEvenErrors(t *testing.T) {
	for _, x := range [][2]int{
		{1, 0}, {1, -1}, {1, 41}, {0, 0}, {0, 41}, {1, math.MinInt}, {1, math.MaxInt},
		{api.MaxMoney + 1, 1}, {-api.MaxMoney - 1, 1}, {math.MinInt, 1}, {math.MaxInt, 40},
		{math.MinInt, math.MinInt}, {math.MaxInt, math.MaxInt},
	} {
		if l, err := split.Even(x[0], x[1]); len(l) != 0 || err != api.ErrArg {
			t.Errorf("Even(%d, %d) = %v, %d; want ErrArg", x[0], x[1], l, err)
		}
	}
}
