package cal_test

import (
	"math"
	"testing"
	"time"

	"tallage/api"
	"tallage/cal"
)

var badDays = []int{math.MinInt, -1000, -1, api.MaxDay + 1, 1000000, math.MaxInt}

func day(y, m, d int) api.Day { return api.Day{Y: y, M: m, D: d} }

func number(t *testing.T, d api.Day) int {
	t.Helper()
	n, err := cal.Of(d)
	if err != api.OK {
		t.Fatalf("Of(%v): error %d", d, err)
	}
	return n
}

// shifted is the rule of P5 without the bounds of the calendar, in the words
// of package time.
func shifted(d api.Day, months int) api.Day {
	first := time.Date(d.Y, time.Month(d.M+months), 1, 0, 0, 0, 0, time.UTC)
	last := first.AddDate(0, 1, -1).Day()
	return day(first.Year(), int(first.Month()), min(d.D, last))
}

// P3 and P4: every day of the calendar, against package time.
func TestEveryDay(t *testing.T) {
	at := time.Date(1600, 1, 1, 0, 0, 0, 0, time.UTC)
	for n := 0; n <= api.MaxDay; n++ {
		want := day(at.Year(), int(at.Month()), at.Day())
		if d, err := cal.Date(n); d != want || err != api.OK {
			t.Fatalf("Date(%d) = %v, %d; want %v", n, d, err, want)
		}
		if got, err := cal.Of(want); got != n || err != api.OK {
			t.Fatalf("Of(%v) = %d, %d; want %d", want, got, err, n)
		}
		if w, err := cal.Weekday(n); w != int(at.Weekday()) || err != api.OK {
			t.Fatalf("Weekday(%d) = %d, %d; want %d", n, w, err, at.Weekday())
		}
		at = at.AddDate(0, 0, 1)
	}
	if at.Year() != 2400 {
		t.Fatalf("the calendar ends before %v", at)
	}
}

// P3: the dates that the document names, and leap years by the century.
func TestOf(t *testing.T) {
	for _, x := range []struct {
		d api.Day
		n int
	}{
		{day(1600, 1, 1), 0},
		{day(1600, 1, 31), 30},
		{day(1600, 2, 29), 59},
		{day(1600, 3, 1), 60},
		{day(1600, 12, 31), 365},
		{day(1601, 1, 1), 366},
		{day(1700, 2, 28), 36583},
		{day(1700, 3, 1), 36584},
		{day(1970, 1, 1), 135140},
		{day(2000, 2, 29), 146156},
		{day(2399, 12, 31), api.MaxDay},
	} {
		if n, err := cal.Of(x.d); n != x.n || err != api.OK {
			t.Errorf("Of(%v) = %d, %d; want %d", x.d, n, err, x.n)
		}
		if d, err := cal.Date(x.n); d != x.d || err != api.OK {
			t.Errorf("Date(%d) = %v, %d; want %v", x.n, d, err, x.d)
		}
	}
}

// P3: dates that do not exist or lie outside the calendar.
func TestOfInvalid(t *testing.T) {
	for _, d := range []api.Day{
		{},
		day(1599, 12, 31), day(2400, 1, 1), day(0, 1, 1), day(-1600, 1, 1),
		day(2000, 0, 1), day(2000, 13, 1), day(2000, -1, 1),
		day(2000, 1, 0), day(2000, 1, -1), day(2000, 1, 32),
		day(2000, 4, 31), day(2000, 6, 31), day(2000, 9, 31), day(2000, 11, 31),
		day(2000, 2, 30), day(1999, 2, 29), day(1700, 2, 29), day(2300, 2, 29),
		day(math.MinInt, 1, 1), day(math.MaxInt, 1, 1),
		day(2000, math.MinInt, 1), day(2000, math.MaxInt, 1),
		day(2000, 1, math.MinInt), day(2000, 1, math.MaxInt),
		day(math.MaxInt, math.MaxInt, math.MaxInt), day(math.MinInt, math.MinInt, math.MinInt),
	} {
		if n, err := cal.Of(d); n != 0 || err != api.ErrArg {
			t.Errorf("Of(%v) = %d, %d; want ErrArg", d, n, err)
		}
	}
}

// P3: of all small dates around each year, Of takes just those that exist.
func TestOfTakesOnlyDates(t *testing.T) {
	for y := 1598; y <= 2401; y++ {
		for m := -1; m <= 14; m++ {
			for d := -1; d <= 33; d++ {
				at := time.Date(y, time.Month(m), d, 0, 0, 0, 0, time.UTC)
				real := at.Year() == y && int(at.Month()) == m && at.Day() == d
				want := api.ErrArg
				if real && y >= 1600 && y <= 2399 {
					want = api.OK
				}
				if n, err := cal.Of(day(y, m, d)); err != want || err != api.OK && n != 0 {
					t.Fatalf("Of(%d, %d, %d) = %d, %d; want error %d", y, m, d, n, err, want)
				}
			}
		}
	}
}

// P3, P4, P5 and P6: day numbers outside the calendar.
func TestInvalidDays(t *testing.T) {
	for _, n := range badDays {
		if d, err := cal.Date(n); d != (api.Day{}) || err != api.ErrArg {
			t.Errorf("Date(%d) = %v, %d; want ErrArg", n, d, err)
		}
		if w, err := cal.Weekday(n); w != 0 || err != api.ErrArg {
			t.Errorf("Weekday(%d) = %d, %d; want ErrArg", n, w, err)
		}
		if l, err := cal.Last(n); l != 0 || err != api.ErrArg {
			t.Errorf("Last(%d) = %d, %d; want ErrArg", n, l, err)
		}
		for _, months := range []int{math.MinInt, -9601, -9600, -1, 0, 1, 9600, 9601, math.MaxInt} {
			if a, err := cal.Add(n, months); a != 0 || err != api.ErrArg {
				t.Errorf("Add(%d, %d) = %d, %d; want ErrArg", n, months, a, err)
			}
		}
		for _, other := range append([]int{0, 1000, api.MaxDay}, badDays...) {
			if m, err := cal.Months(n, other); m != 0 || err != api.ErrArg {
				t.Errorf("Months(%d, %d) = %d, %d; want ErrArg", n, other, m, err)
			}
			if m, err := cal.Months(other, n); m != 0 || err != api.ErrArg {
				t.Errorf("Months(%d, %d) = %d, %d; want ErrArg", other, n, m, err)
			}
		}
	}
}

// P4: the week that begins on day 0, a Saturday.
func TestWeekday(t *testing.T) {
	for n, want := range []int{6, 0, 1, 2, 3, 4, 5, 6} {
		if w, err := cal.Weekday(n); w != want || err != api.OK {
			t.Errorf("Weekday(%d) = %d, %d; want %d", n, w, err, want)
		}
	}
	if w, err := cal.Weekday(api.MaxDay); w != 5 || err != api.OK {
		t.Errorf("Weekday(MaxDay) = %d, %d; want 5", w, err)
	}
}

// P5: ends of months, leap years and both directions.
func TestAdd(t *testing.T) {
	for _, x := range []struct {
		from   api.Day
		months int
		want   api.Day
	}{
		{day(1600, 1, 31), 1, day(1600, 2, 29)},
		{day(1601, 1, 31), 1, day(1601, 2, 28)},
		{day(1700, 1, 30), 1, day(1700, 2, 28)},
		{day(2000, 1, 30), 1, day(2000, 2, 29)},
		{day(2000, 2, 29), 1, day(2000, 3, 29)},
		{day(2000, 2, 29), 12, day(2001, 2, 28)},
		{day(2000, 2, 29), 48, day(2004, 2, 29)},
		{day(2000, 3, 31), -1, day(2000, 2, 29)},
		{day(2000, 5, 31), 1, day(2000, 6, 30)},
		{day(2000, 12, 31), 1, day(2001, 1, 31)},
		{day(2001, 1, 31), -1, day(2000, 12, 31)},
		{day(2000, 1, 15), -13, day(1998, 12, 15)},
		{day(2000, 7, 4), 0, day(2000, 7, 4)},
		{day(1600, 1, 31), 9599, day(2399, 12, 31)},
		{day(2399, 12, 31), -9599, day(1600, 1, 31)},
		{day(2399, 11, 30), 1, day(2399, 12, 30)},
		{day(1600, 2, 1), -1, day(1600, 1, 1)},
	} {
		want := number(t, x.want)
		if n, err := cal.Add(number(t, x.from), x.months); n != want || err != api.OK {
			t.Errorf("Add(%v, %d) = %d, %d; want %v (%d)", x.from, x.months, n, err, x.want, want)
		}
	}
}

// P5: ErrArg before ErrLarge, and the bounds of both.
func TestAddErrors(t *testing.T) {
	for _, x := range []struct {
		n, months int
		want      api.Errno
	}{
		{0, -1, api.ErrLarge},
		{30, -1, api.ErrLarge},
		{31, -2, api.ErrLarge},
		{0, 9600, api.ErrLarge},
		{api.MaxDay, 1, api.ErrLarge},
		{api.MaxDay - 30, 1, api.ErrLarge},
		{api.MaxDay, -9600, api.ErrLarge},
		{146097, 9600, api.ErrLarge},
		{146097, -9600, api.ErrLarge},
		{0, 9601, api.ErrArg},
		{0, -9601, api.ErrArg},
		{api.MaxDay, 9601, api.ErrArg},
		{146097, math.MaxInt, api.ErrArg},
		{146097, math.MinInt, api.ErrArg},
		{-1, -1, api.ErrArg},
		{api.MaxDay + 1, 1, api.ErrArg},
	} {
		if n, err := cal.Add(x.n, x.months); n != 0 || err != x.want {
			t.Errorf("Add(%d, %d) = %d, %d; want error %d", x.n, x.months, n, err, x.want)
		}
	}
}

// P5: many days and distances, against package time.
func TestAddManyDays(t *testing.T) {
	distances := []int{-9600, -9599, -4800, -1201, -49, -13, -12, -11, -2, -1, 0, 1, 2, 11, 12, 13, 48, 1200, 4799, 9599, 9600}
	for n := 0; n <= api.MaxDay; n += 7 {
		d, _ := cal.Date(n)
		for _, months := range distances {
			to := shifted(d, months)
			want, wantErr := 0, api.ErrLarge
			if to.Y >= 1600 && to.Y <= 2399 {
				want, wantErr = number(t, to), api.OK
			}
			if got, err := cal.Add(n, months); got != want || err != wantErr {
				t.Fatalf("Add(%d, %d) = %d, %d; want %d, %d", n, months, got, err, want, wantErr)
			}
		}
	}
}

// P5: the last day of a month is the one before the first of the next month.
func TestLast(t *testing.T) {
	want := api.MaxDay
	for n := api.MaxDay; n >= 0; n-- {
		if got, err := cal.Last(n); got != want || err != api.OK {
			t.Fatalf("Last(%d) = %d, %d; want %d", n, got, err, want)
		}
		if d, _ := cal.Date(n); d.D == 1 {
			want = n - 1
		}
	}
}

// P6: ends of months, where the day of the month is cut.
func TestMonths(t *testing.T) {
	for _, x := range []struct {
		a, b api.Day
		want int
	}{
		{day(1600, 1, 31), day(1600, 1, 31), 0},
		{day(1600, 1, 31), day(1600, 2, 28), 0},
		{day(1600, 1, 31), day(1600, 2, 29), 1},
		{day(1600, 1, 31), day(1600, 3, 30), 1},
		{day(1600, 1, 31), day(1600, 3, 31), 2},
		{day(1601, 1, 29), day(1601, 2, 28), 1},
		{day(2000, 2, 29), day(2001, 2, 27), 11},
		{day(2000, 2, 29), day(2001, 2, 28), 12},
		{day(2000, 2, 29), day(2004, 2, 28), 47},
		{day(2000, 2, 29), day(2004, 2, 29), 48},
		{day(1999, 12, 15), day(2000, 1, 14), 0},
		{day(1999, 12, 15), day(2000, 1, 15), 1},
		{day(1600, 1, 1), day(2399, 12, 31), 9599},
		{day(1600, 1, 31), day(2399, 12, 30), 9598},
		{day(2399, 12, 1), day(2399, 12, 31), 0},
	} {
		if m, err := cal.Months(number(t, x.a), number(t, x.b)); m != x.want || err != api.OK {
			t.Errorf("Months(%v, %v) = %d, %d; want %d", x.a, x.b, m, err, x.want)
		}
	}
}

// P6: a day before the other one.
func TestMonthsBackwards(t *testing.T) {
	for _, x := range [][2]int{{1, 0}, {60, 59}, {api.MaxDay, 0}, {api.MaxDay, api.MaxDay - 1}} {
		if m, err := cal.Months(x[0], x[1]); m != 0 || err != api.ErrArg {
			t.Errorf("Months(%d, %d) = %d, %d; want ErrArg", x[0], x[1], m, err)
		}
	}
}

// P6: the words of the promise, by counting up from 0.
func TestMonthsIsTheGreatest(t *testing.T) {
	starts := []int{0, 29, 30, 59, 366, 425, 36523, 36582, 136000, 146097, 146156, 146157}
	for n := api.MaxDay - 800; n <= api.MaxDay; n += 13 {
		starts = append(starts, n)
	}
	for _, a := range starts {
		m := 0
		for b := a; b <= min(a+2000, api.MaxDay); b++ {
			if next, err := cal.Add(a, m+1); err == api.OK && next <= b {
				m++
			}
			if got, err := cal.Months(a, b); got != m || err != api.OK {
				t.Fatalf("Months(%d, %d) = %d, %d; want %d", a, b, got, err, m)
			}
		}
	}
}
