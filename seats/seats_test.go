package seats_test

import (
	"math"
	"math/big"
	"math/rand"
	"slices"
	"testing"

	"tallage/api"
	"tallage/seats"
)

var ways = []int{api.Jefferson, api.Webster, api.Adams}

func repeat(n, times int) []int { return slices.Repeat([]int{n}, times) }

func total(l []int) int {
	s := 0
	for _, n := range l {
		s += n
	}
	return s
}

// divisor is the divisor of P14 for a party that already has s seats.
func divisor(way, s int) int { return []int{s + 1, 2*s + 1, s}[way] }

// award is the rule of P14: one seat after the other, with the quotients as
// rational numbers. A party without a divisor has a quotient above all others.
func award(way, n int, votes []int) []int {
	held := make([]int, len(votes))
	above := big.NewRat(api.MaxWeight+1, 1)
	for range n {
		best, most := -1, new(big.Rat)
		for i, v := range votes {
			if v == 0 {
				continue
			}
			q := above
			if d := divisor(way, held[i]); d > 0 {
				q = big.NewRat(int64(v), int64(d))
			}
			if best < 0 || q.Cmp(most) > 0 {
				best, most = i, q
			}
		}
		held[best]++
	}
	return held
}

// P14: the examples, equal quotients, parties without votes and the bounds.
func TestDeal(t *testing.T) {
	for _, x := range []struct {
		way, n      int
		votes, want []int
	}{
		{api.Webster, 4, []int{30, 20}, []int{2, 2}},
		{api.Jefferson, 4, []int{30, 20}, []int{3, 1}},
		{api.Adams, 4, []int{30, 20}, []int{2, 2}},
		{api.Jefferson, 9, []int{49, 32, 16, 0}, []int{5, 3, 1, 0}},
		{api.Webster, 9, []int{49, 32, 16, 0}, []int{5, 3, 1, 0}},
		{api.Adams, 9, []int{49, 32, 16, 0}, []int{4, 3, 2, 0}},
		{api.Jefferson, 10, []int{60, 28, 12}, []int{6, 3, 1}},
		{api.Webster, 10, []int{60, 28, 12}, []int{6, 3, 1}},
		{api.Adams, 10, []int{60, 28, 12}, []int{6, 3, 1}},
		{api.Adams, 10, []int{12, 60, 28}, []int{2, 5, 3}},
		{api.Jefferson, 1, []int{5, 5}, []int{1, 0}},
		{api.Webster, 1, []int{5, 5}, []int{1, 0}},
		{api.Adams, 1, []int{5, 5}, []int{1, 0}},
		// 2/2 and 1/1 are equal quotients.
		{api.Jefferson, 2, []int{2, 1}, []int{2, 0}},
		{api.Jefferson, 2, []int{1, 2}, []int{1, 1}},
		{api.Webster, 2, []int{3, 1}, []int{2, 0}},
		{api.Webster, 2, []int{1, 3}, []int{1, 1}},
		// Under Adams the first seats go in the order of the parties.
		{api.Adams, 1, []int{1, 100}, []int{1, 0}},
		{api.Adams, 2, []int{1, 100, 50}, []int{1, 1, 0}},
		{api.Adams, 3, []int{1, 0, 100, 0, 50}, []int{1, 0, 1, 0, 1}},
		{api.Adams, 4, []int{1, 0, 100, 0, 50}, []int{1, 0, 2, 0, 1}},
		{api.Adams, 1, []int{0, 0, 7}, []int{0, 0, 1}},
		{api.Jefferson, 3, []int{0, 7, 0}, []int{0, 3, 0}},
		{api.Webster, 3, []int{0, 0, 7}, []int{0, 0, 3}},
		{api.Jefferson, 0, []int{1, 2}, []int{0, 0}},
		{api.Adams, 0, []int{0, 2}, []int{0, 0}},
		{api.Jefferson, 1000, []int{1}, []int{1000}},
		{api.Adams, 1000, []int{1000000, 1}, []int{999, 1}},
		{api.Jefferson, 1000, []int{1000000, 1}, []int{1000, 0}},
		{api.Webster, 1000, repeat(1000000, 40), repeat(25, 40)},
		{api.Jefferson, 39, repeat(1, 40), append(repeat(1, 39), 0)},
	} {
		if l, err := seats.Deal(x.way, x.n, x.votes); !slices.Equal(l, x.want) || err != api.OK {
			t.Errorf("Deal(%d, %d, %v) = %v, %d; want %v", x.way, x.n, x.votes, l, err, x.want)
		}
	}
}

// P14: all short lists of few votes, and many votes at random.
func TestDealDefinition(t *testing.T) {
	check := func(n int, votes []int) {
		t.Helper()
		for _, way := range ways {
			want := award(way, n, votes)
			if got, err := seats.Deal(way, n, votes); !slices.Equal(got, want) || err != api.OK {
				t.Fatalf("Deal(%d, %d, %v) = %v, %d; want %v", way, n, votes, got, err, want)
			}
		}
	}
	for code := 1; code < 5*5*5; code++ {
		for n := range 12 {
			check(n, []int{code % 5, code / 5 % 5, code / 25})
		}
	}
	r := rand.New(rand.NewSource(3))
	for range 150 {
		votes := make([]int, 1+r.Intn(api.MaxParts))
		for i := range votes {
			votes[i] = r.Intn(api.MaxWeight + 1)
		}
		votes[0] = max(votes[0], 1)
		check(r.Intn(60), votes)
		// Few different numbers of votes make many equal quotients.
		for i := range votes {
			votes[i] = 1 + r.Intn(6)
		}
		check(r.Intn(60), votes)
	}
	check(api.MaxSeats, []int{999999, 0, 1000000, 333333, 1, 500000})
}

// P14: the seats of all parties are n seats.
func TestDealSum(t *testing.T) {
	r := rand.New(rand.NewSource(4))
	for range 100 {
		votes := make([]int, 1+r.Intn(api.MaxParts))
		for i := range votes {
			votes[i] = r.Intn(api.MaxWeight + 1)
		}
		votes[0] = max(votes[0], 1)
		n := r.Intn(api.MaxSeats + 1)
		for _, way := range ways {
			if l, err := seats.Deal(way, n, votes); total(l) != n || err != api.OK {
				t.Fatalf("Deal(%d, %d, %v) = %v, %d", way, n, votes, l, err)
			}
		}
	}
}

// P14: an unknown method comes before all other errors.
func TestDealWay(t *testing.T) {
	for _, way := range []int{-1, 3, math.MinInt, math.MaxInt} {
		for _, votes := range [][]int{{1}, {0}, nil, {-1}, repeat(1, 41)} {
			for _, n := range []int{0, 1, -1, api.MaxSeats + 1} {
				if l, err := seats.Deal(way, n, votes); len(l) != 0 || err != api.ErrArg {
					t.Errorf("Deal(%d, %d, %v) = %v, %d", way, n, votes, l, err)
				}
			}
		}
	}
}

// P14, P15: the errors that Deal and Quotas share, and which of several is
// returned.
func TestErrors(t *testing.T) {
	for _, x := range []struct {
		n     int
		votes []int
		err   api.Errno
	}{
		{1, repeat(1, 41), api.ErrLarge},
		{1, repeat(0, 41), api.ErrLarge},
		{1, repeat(-1, 41), api.ErrLarge},
		{-1, repeat(1, 41), api.ErrLarge},
		{math.MaxInt, repeat(1, 1000), api.ErrLarge},
		{-1, []int{1}, api.ErrArg},
		{1001, []int{1}, api.ErrArg},
		{math.MinInt, []int{1}, api.ErrArg},
		{math.MaxInt, []int{1}, api.ErrArg},
		{1, []int{-1}, api.ErrArg},
		{1, []int{1000001}, api.ErrArg},
		{1, []int{2, -1}, api.ErrArg},
		{1, []int{0, -1}, api.ErrArg},
		{1, []int{1, -1}, api.ErrArg},
		{0, []int{1, math.MinInt}, api.ErrArg},
		{0, []int{math.MaxInt, math.MaxInt, 2}, api.ErrArg},
		{1, append(repeat(1, 39), 1000001), api.ErrArg},
		{-1, nil, api.ErrArg},
		{1001, []int{0, 0}, api.ErrArg},
		{1, nil, api.ErrZero},
		{0, nil, api.ErrZero},
		{0, []int{}, api.ErrZero},
		{0, []int{0}, api.ErrZero},
		{1000, repeat(0, 40), api.ErrZero},
	} {
		for _, way := range ways {
			if l, err := seats.Deal(way, x.n, x.votes); len(l) != 0 || err != x.err {
				t.Errorf("Deal(%d, %d, %v) = %v, %d; want error %d", way, x.n, x.votes, l, err, x.err)
			}
		}
		if l, err := seats.Quotas(x.n, x.votes); len(l) != 0 || err != x.err {
			t.Errorf("Quotas(%d, %v) = %v, %d; want error %d", x.n, x.votes, l, err, x.err)
		}
	}
}

// P15: ordinary votes and the bounds.
func TestQuotas(t *testing.T) {
	for _, x := range []struct {
		n           int
		votes, want []int
	}{
		{10, []int{1, 2}, []int{3, 6}},
		{4, []int{30, 20}, []int{2, 1}},
		{9, []int{49, 32, 16, 0}, []int{4, 2, 1, 0}},
		{5, []int{3, 2}, []int{3, 2}},
		{0, []int{3, 2}, []int{0, 0}},
		{1, []int{1, 1}, []int{0, 0}},
		{1, []int{0, 1}, []int{0, 1}},
		{1000, []int{1000000}, []int{1000}},
		{1000, []int{1000000, 1}, []int{999, 0}},
		{1000, repeat(1000000, 40), repeat(25, 40)},
		{999, repeat(1000000, 40), repeat(24, 40)},
	} {
		if l, err := seats.Quotas(x.n, x.votes); !slices.Equal(l, x.want) || err != api.OK {
			t.Errorf("Quotas(%d, %v) = %v, %d; want %v", x.n, x.votes, l, err, x.want)
		}
	}
}

// P15: a quota q is the greatest number with q*sum <= n*votes.
func TestQuotasDefinition(t *testing.T) {
	r := rand.New(rand.NewSource(5))
	for range 3000 {
		most := []int{3, 100, api.MaxWeight}[r.Intn(3)]
		votes := make([]int, 1+r.Intn(api.MaxParts))
		for i := range votes {
			votes[i] = r.Intn(most + 1)
		}
		votes[0] = max(votes[0], 1)
		n, sum := r.Intn(api.MaxSeats+1), total(votes)
		l, err := seats.Quotas(n, votes)
		if len(l) != len(votes) || err != api.OK {
			t.Fatalf("Quotas(%d, %v) = %v, %d", n, votes, l, err)
		}
		for i, q := range l {
			if q*sum > n*votes[i] || (q+1)*sum <= n*votes[i] {
				t.Fatalf("Quotas(%d, %v)[%d] = %d", n, votes, i, q)
			}
		}
	}
}

// P2: the votes stay as they are, and the results are new memory.
func TestMemory(t *testing.T) {
	for name, f := range map[string]func([]int) ([]int, api.Errno){
		"Jefferson": func(l []int) ([]int, api.Errno) { return seats.Deal(api.Jefferson, 7, l) },
		"Webster":   func(l []int) ([]int, api.Errno) { return seats.Deal(api.Webster, 7, l) },
		"Adams":     func(l []int) ([]int, api.Errno) { return seats.Deal(api.Adams, 7, l) },
		"no seats":  func(l []int) ([]int, api.Errno) { return seats.Deal(api.Adams, 0, l) },
		"Quotas":    func(l []int) ([]int, api.Errno) { return seats.Quotas(7, l) },
	} {
		room := []int{30, 0, 20, 77, 78, 79}
		a, _ := f(room[:3])
		b, _ := f(room[:3])
		want := slices.Clone(b)
		a = a[:cap(a)]
		for i := range a {
			a[i] = 1000
		}
		if !slices.Equal(b, want) {
			t.Errorf("%s: two results share memory", name)
		}
		if !slices.Equal(room, []int{30, 0, 20, 77, 78, 79}) {
			t.Errorf("%s changed its argument to %v", name, room)
		}
	}
}
