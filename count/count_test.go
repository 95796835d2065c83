package count_test

import (
	"math"
	"testing"

	"tallage/api"
	"tallage/cal"
	"tallage/count"
)

func number(t *testing.T, y, m, d int) int {
	t.Helper()
	n, err := cal.Of(api.Day{Y: y, M: m, D: d})
	if err != api.OK {
		t.Fatalf("Of(%d, %d, %d): error %d", y, m, d, err)
	}
	return n
}

// P7: the number of days over 360 or 365, not reduced.
func TestActual(t *testing.T) {
	for _, x := range []struct{ a, b, want int }{
		{0, 0, 0},
		{0, 1, 1},
		{0, 60, 60},
		{59, 60, 1},
		{0, 366, 366},
		{0, 360, 360},
		{0, 365, 365},
		{1000, 1730, 730},
		{api.MaxDay, api.MaxDay, 0},
		{0, api.MaxDay, api.MaxDay},
	} {
		if f, err := count.Between(api.Act360, x.a, x.b); f != (api.Frac{Num: x.want, Den: 360}) || err != api.OK {
			t.Errorf("Between(Act360, %d, %d) = %v, %d; want %d/360", x.a, x.b, f, err, x.want)
		}
		if f, err := count.Between(api.Act365, x.a, x.b); f != (api.Frac{Num: x.want, Den: 365}) || err != api.OK {
			t.Errorf("Between(Act365, %d, %d) = %v, %d; want %d/365", x.a, x.b, f, err, x.want)
		}
	}
}

// P7: months of 30 days, ends of months and leap years.
func TestEuro30(t *testing.T) {
	for _, x := range []struct {
		from, to [3]int
		want     int
	}{
		{[3]int{1600, 1, 1}, [3]int{1600, 3, 1}, 60},
		{[3]int{1600, 1, 1}, [3]int{1600, 1, 1}, 0},
		{[3]int{1600, 1, 1}, [3]int{1600, 2, 29}, 58},
		{[3]int{1600, 1, 1}, [3]int{1600, 1, 31}, 29},
		{[3]int{1600, 1, 30}, [3]int{1600, 1, 31}, 0},
		{[3]int{1600, 1, 31}, [3]int{1600, 2, 1}, 1},
		{[3]int{1600, 1, 31}, [3]int{1600, 3, 31}, 60},
		{[3]int{1600, 1, 31}, [3]int{1600, 2, 29}, 29},
		{[3]int{1600, 2, 29}, [3]int{1600, 3, 1}, 2},
		{[3]int{2001, 2, 28}, [3]int{2001, 3, 1}, 3},
		{[3]int{2001, 2, 28}, [3]int{2001, 3, 31}, 32},
		{[3]int{1999, 12, 31}, [3]int{2000, 1, 1}, 1},
		{[3]int{1999, 12, 31}, [3]int{2000, 12, 31}, 360},
		{[3]int{2000, 11, 15}, [3]int{2002, 2, 10}, 445},
		{[3]int{1600, 1, 1}, [3]int{2399, 12, 31}, 287999},
	} {
		a := number(t, x.from[0], x.from[1], x.from[2])
		b := number(t, x.to[0], x.to[1], x.to[2])
		if f, err := count.Between(api.Euro30, a, b); f != (api.Frac{Num: x.want, Den: 360}) || err != api.OK {
			t.Errorf("Between(Euro30, %v, %v) = %v, %d; want %d/360", x.from, x.to, f, err, x.want)
		}
	}
}

// P7: under Euro30 each month has 30 days, so that parts add up and no number
// is negative.
func TestEuro30DayByDay(t *testing.T) {
	total := 0
	for n := 0; n < api.MaxDay; n++ {
		step, err := count.Between(api.Euro30, n, n+1)
		if err != api.OK || step.Num < 0 || step.Num > 3 {
			t.Fatalf("Between(Euro30, %d, %d) = %v, %d", n, n+1, step, err)
		}
		total += step.Num
		if f, err := count.Between(api.Euro30, 0, n+1); f != (api.Frac{Num: total, Den: 360}) || err != api.OK {
			t.Fatalf("Between(Euro30, 0, %d) = %v, %d; want %d/360", n+1, f, err, total)
		}
		d, _ := cal.Date(n + 1)
		if d.D == 1 && total%30 != 0 {
			t.Fatalf("%d days up to %v", total, d)
		}
	}
}

// P7: unknown conventions, days outside the calendar, and b before a.
func TestBetweenErrors(t *testing.T) {
	for _, way := range []int{math.MinInt, -1, 3, 4, 360, 365, math.MaxInt} {
		if f, err := count.Between(way, 0, 1); f != (api.Frac{}) || err != api.ErrArg {
			t.Errorf("Between(%d, 0, 1) = %v, %d; want ErrArg", way, f, err)
		}
	}
	for way := -1; way <= 3; way++ {
		for _, x := range [][2]int{
			{-1, 0}, {-1, -1}, {math.MinInt, 0}, {math.MinInt, math.MaxInt},
			{0, api.MaxDay + 1}, {api.MaxDay + 1, api.MaxDay + 1}, {0, math.MaxInt}, {0, math.MinInt},
			{1, 0}, {30, 29}, {api.MaxDay, 0},
		} {
			if f, err := count.Between(way, x[0], x[1]); f != (api.Frac{}) || err != api.ErrArg {
				t.Errorf("Between(%d, %d, %d) = %v, %d; want ErrArg", way, x[0], x[1], f, err)
			}
		}
	}
}
