package fall_test

import (
	"math"
	"math/big"
	"math/rand"
	"slices"
	"testing"

	"tallage/api"
	"tallage/fall"
)

func repeat(n, times int) []int { return slices.Repeat([]int{n}, times) }

func total(l []int) int {
	s := 0
	for _, n := range l {
		s += n
	}
	return s
}

// floor is a times b divided by c, rounded down, in numbers without bounds.
func floor(a, b, c int) int {
	n := new(big.Int).Mul(big.NewInt(int64(a)), big.NewInt(int64(b)))
	return int(n.Div(n, big.NewInt(int64(c))).Int64())
}

// falling is the rule of P22, period by period.
func falling(cost, rest, rate, n int) []int {
	l := []int{}
	value := cost
	for remaining := n; remaining > 0; remaining-- {
		above := value - rest
		part := floor(2*value, rate, 1000000)
		part = part/2 + part%2
		if equal := -floor(-above, 1, remaining); equal > part {
			part = equal
		}
		if part > above {
			part = above
		}
		value -= part
		l = append(l, part)
	}
	return l
}

// P22: the example, both methods of a period, halves, and the bounds.
func TestFalling(t *testing.T) {
	for _, x := range []struct {
		cost, rest, rate, n int
		want                []int
	}{
		{100, 10, 500000, 3, []int{50, 25, 15}},
		{100, 0, 500000, 3, []int{50, 25, 25}},
		{100, 0, 0, 3, []int{34, 33, 33}},
		{100, 0, 200000, 5, []int{20, 20, 20, 20, 20}},
		{1000, 0, 400000, 5, []int{400, 240, 144, 108, 108}},
		{1000, 100, 400000, 5, []int{400, 240, 144, 86, 30}},
		{1000, 200, 400000, 5, []int{400, 240, 144, 16, 0}},
		// The rate is applied to the book value, and not to what is above rest.
		{100, 50, 400000, 4, []int{40, 10, 0, 0}},
		{100, 90, 500000, 3, []int{10, 0, 0}},
		// A half goes up, and one third is rounded up.
		{5, 0, 500000, 5, []int{3, 1, 1, 0, 0}},
		{3, 0, 500000, 3, []int{2, 1, 0}},
		{1, 0, 0, 3, []int{1, 0, 0}},
		{4, 0, 0, 3, []int{2, 1, 1}},
		{7, 7, 1000000, 2, []int{0, 0}},
		{100, 10, 1000000, 3, []int{90, 0, 0}},
		{100, 0, 1000000, 2, []int{100, 0}},
		{100, 10, 0, 1, []int{90}},
		{100, 10, 100000, 1, []int{90}},
		{0, 0, 1000000, 2, []int{0, 0}},
		{api.MaxMoney, 0, 1000000, 2, []int{api.MaxMoney, 0}},
		{api.MaxMoney, 0, 0, 40, repeat(25000000000, 40)},
		{api.MaxMoney, 0, 999999, 2, []int{999999000000, 1000000}},
		{api.MaxMoney, api.MaxMoney, 500000, 1, []int{0}},
	} {
		if l, err := fall.Falling(x.cost, x.rest, x.rate, x.n); !slices.Equal(l, x.want) || err != api.OK {
			t.Errorf("Falling(%d, %d, %d, %d) = %v, %d; want %v", x.cost, x.rest, x.rate, x.n, l, err, x.want)
		}
	}
}

// P22: small costs, costs at the bounds and costs at random against the rule,
// and the periods sum to the whole.
func TestFallingDefinition(t *testing.T) {
	r := rand.New(rand.NewSource(8))
	check := func(cost, rest, n int) {
		t.Helper()
		for _, rate := range []int{0, 1, 50000, 125000, 250000, 333333, 499999, 500000, 750000, 999999, 1000000, r.Intn(1000001)} {
			want := falling(cost, rest, rate, n)
			l, err := fall.Falling(cost, rest, rate, n)
			if !slices.Equal(l, want) || total(l) != cost-rest || err != api.OK {
				t.Fatalf("Falling(%d, %d, %d, %d) = %v, %d; want %v", cost, rest, rate, n, l, err, want)
			}
		}
	}
	for n := 1; n <= api.MaxParts; n++ {
		for cost := range 25 {
			for rest := 0; rest <= cost; rest += 1 + cost/8 {
				check(cost, rest, n)
			}
		}
		for i := range 20 {
			check(api.MaxMoney-i, 0, n)
			check(api.MaxMoney, i, n)
			check(api.MaxMoney, api.MaxMoney-i, n)
			cost := r.Intn(api.MaxMoney + 1)
			check(cost, r.Intn(cost+1), n)
			check(cost, cost, n)
		}
	}
}

// P22: each argument just out of its range and far out of it.
func TestFallingErrors(t *testing.T) {
	for _, x := range []struct{ cost, rest, rate, n int }{
		{-1, 0, 0, 1},
		{-1, -1, 0, 1},
		{api.MaxMoney + 1, 0, 0, 1},
		{math.MinInt, math.MinInt, 0, 1},
		{math.MaxInt, math.MaxInt, 0, 1},
		{10, -1, 0, 1},
		{10, 11, 0, 1},
		{10, math.MinInt, 0, 1},
		{10, math.MaxInt, 0, 1},
		{10, 0, 0, 0},
		{10, 0, 0, -1},
		{10, 0, 0, 41},
		{10, 0, 0, math.MaxInt},
		{10, 0, 0, math.MinInt},
		{10, 0, -1, 1},
		{10, 0, 1000001, 1},
		{0, 0, -1, 1},
		{0, 0, 1000001, 40},
		{10, 10, -1, 2},
		{10, 0, math.MaxInt, 1},
		{10, 0, math.MinInt, 1},
		{math.MinInt, math.MaxInt, math.MinInt, math.MaxInt},
	} {
		if l, err := fall.Falling(x.cost, x.rest, x.rate, x.n); len(l) != 0 || err != api.ErrArg {
			t.Errorf("Falling(%d, %d, %d, %d) = %v, %d", x.cost, x.rest, x.rate, x.n, l, err)
		}
	}
}

// P23: ordinary inputs, more units than the total, rounding, and the bounds.
func TestUnits(t *testing.T) {
	for _, x := range []struct {
		cost, rest, total int
		used, want        []int
	}{
		{100, 0, 10, []int{3, 9, 1}, []int{30, 70, 0}},
		{110, 10, 10, []int{3, 7, 0}, []int{30, 70, 0}},
		{100, 0, 3, []int{1, 1, 1}, []int{33, 33, 34}},
		{100, 0, 10, []int{1, 2}, []int{10, 20}},
		{2, 0, 3, []int{1, 1, 1}, []int{0, 1, 1}},
		{5, 0, 2, []int{1, 0, 1}, []int{2, 0, 3}},
		{100, 0, 10, []int{0, 0}, []int{0, 0}},
		{100, 0, 10, nil, nil},
		{100, 0, 10, []int{}, nil},
		{100, 0, 1, []int{1000000, 1000000}, []int{100, 0}},
		{100, 100, 5, []int{3, 3}, []int{0, 0}},
		{0, 0, 5, []int{5}, []int{0}},
		{api.MaxMoney, 0, 1000000, []int{1, 999999, 1}, []int{1000000, 999999000000, 0}},
		{api.MaxMoney - 1, 0, 1000000, []int{1, 999998, 1}, []int{999999, 999998000000, 1000000}},
		{api.MaxMoney, 0, 1000000, repeat(1000000, 40), append([]int{api.MaxMoney}, repeat(0, 39)...)},
		{80, 0, 40, repeat(1, 40), repeat(2, 40)},
	} {
		if l, err := fall.Units(x.cost, x.rest, x.total, x.used); !slices.Equal(l, x.want) || err != api.OK {
			t.Errorf("Units(%d, %d, %d, %v) = %v, %d; want %v", x.cost, x.rest, x.total, x.used, l, err, x.want)
		}
	}
}

// P23: the accumulated depreciation after every period.
func TestUnitsDefinition(t *testing.T) {
	r := rand.New(rand.NewSource(23))
	check := func(cost, rest, all int, used []int) {
		t.Helper()
		l, err := fall.Units(cost, rest, all, used)
		if len(l) != len(used) || err != api.OK {
			t.Fatalf("Units(%d, %d, %d, %v) = %v, %d", cost, rest, all, used, l, err)
		}
		for i := range l {
			want := floor(cost-rest, min(total(used[:i+1]), all), all)
			if l[i] < 0 || total(l[:i+1]) != want {
				t.Fatalf("Units(%d, %d, %d, %v) = %v: after %d periods %d; want %d",
					cost, rest, all, used, l, i+1, total(l[:i+1]), want)
			}
		}
	}
	for range 3000 {
		cost := []int{api.MaxMoney, api.MaxMoney - 1, r.Intn(100), r.Intn(api.MaxMoney + 1)}[r.Intn(4)]
		all := []int{1000000, 1 + r.Intn(30), 1 + r.Intn(1000000)}[r.Intn(3)]
		used := make([]int, r.Intn(api.MaxParts+1))
		most := []int{3, all/20 + 1, 1000000}[r.Intn(3)]
		for i := range used {
			used[i] = r.Intn(most + 1)
		}
		check(cost, 0, all, used)
		check(cost, r.Intn(cost+1), all, used)
	}
}

// P23: each argument out of its range, and the order of the errors.
func TestUnitsErrors(t *testing.T) {
	many := repeat(1, 41)
	for _, x := range []struct {
		cost, rest, total int
		used              []int
		err               api.Errno
	}{
		{-1, 0, 1, nil, api.ErrArg},
		{-1, -1, 1, nil, api.ErrArg},
		{api.MaxMoney + 1, 0, 1, nil, api.ErrArg},
		{math.MinInt, math.MinInt, 1, nil, api.ErrArg},
		{math.MaxInt, math.MaxInt, 1, nil, api.ErrArg},
		{10, -1, 1, nil, api.ErrArg},
		{10, 11, 1, nil, api.ErrArg},
		{10, math.MinInt, 1, nil, api.ErrArg},
		{10, math.MaxInt, 1, nil, api.ErrArg},
		{10, 0, 0, nil, api.ErrArg},
		{10, 0, -1, nil, api.ErrArg},
		{10, 0, 1000001, nil, api.ErrArg},
		{10, 0, math.MinInt, nil, api.ErrArg},
		{10, 0, math.MaxInt, nil, api.ErrArg},
		{10, 0, 5, []int{-1}, api.ErrArg},
		{10, 0, 5, []int{1000001}, api.ErrArg},
		{10, 0, 5, []int{5, 5, -1}, api.ErrArg},
		{10, 0, 5, []int{5, math.MinInt, 5}, api.ErrArg},
		{10, 0, 5, []int{math.MaxInt, 5}, api.ErrArg},
		{10, 0, 5, many, api.ErrLarge},
		{10, 0, 5, repeat(0, 41), api.ErrLarge},
		{10, 0, 5, repeat(-1, 41), api.ErrLarge},
		{10, 0, 0, many, api.ErrArg},
		{10, 11, 5, many, api.ErrArg},
		{-1, 0, 5, many, api.ErrArg},
	} {
		if l, err := fall.Units(x.cost, x.rest, x.total, x.used); len(l) != 0 || err != x.err {
			t.Errorf("Units(%d, %d, %d, %v) = %v, %d; want %d", x.cost, x.rest, x.total, x.used, l, err, x.err)
		}
	}
}

// P2: the argument stays as it is, with its spare capacity, and neither it nor
// another result shares memory with a result.
func TestMemory(t *testing.T) {
	whole := []int{3, 9, 1, 55, 66}
	a, _ := fall.Units(100, 0, 10, whole[:3])
	spoil(a)
	b, _ := fall.Units(100, 0, 10, whole[:3])
	if !slices.Equal(whole, []int{3, 9, 1, 55, 66}) || !slices.Equal(b, []int{30, 70, 0}) {
		t.Error(whole, b)
	}
	c, _ := fall.Falling(100, 10, 500000, 3)
	d, _ := fall.Falling(100, 10, 500000, 3)
	spoil(c)
	if !slices.Equal(d, []int{50, 25, 15}) || !slices.Equal(b, []int{30, 70, 0}) {
		t.Error(b, d)
	}
}

func spoil(l []int) {
	l = l[:cap(l)]
	for i := range l {
		l[i] = -7
	}
}
