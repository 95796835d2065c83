// Package cal converts between dates of the Gregorian calendar and day
// numbers: see doc/01-cal.md.
package cal

import "tallage/api"

const (
	firstYear  = 1600
	lastYear   = 2399
	yearMonths = 12
	// allMonths is also the farthest that Add goes: from one end of the
	// calendar past the other.
	allMonths = (lastYear - firstYear + 1) * yearMonths
)

// monthDays has the lengths of the months of a year that is not a leap year.
var monthDays = [yearMonths]int{31, 28, 31, 30, 31, 30, 31, 31, 30, 31, 30, 31}

// Of returns the day number of a date.
func Of(d api.Day) (int, api.Errno) {
	if !validDate(d) {
		return 0, api.ErrArg
	}
	return dayNumber(d), api.OK
}

// Date returns the date of a day number.
func Date(n int) (api.Day, api.Errno) {
	if !validDay(n) {
		return api.Day{}, api.ErrArg
	}
	// No year is longer than 366 days, so the guess is never too late, and
	// within this calendar it is at most two years too early.
	year := firstYear + n/366
	for yearStart(year+1) <= n {
		year++
	}
	rest := n - yearStart(year)
	month := 1
	for rest >= monthLength(year, month) {
		rest -= monthLength(year, month)
		month++
	}
	return api.Day{Y: year, M: month, D: rest + 1}, api.OK
}

// Weekday returns the day of the week: 0 for Sunday to 6 for Saturday.
func Weekday(n int) (int, api.Errno) {
	if !validDay(n) {
		return 0, api.ErrArg
	}
	// Day 0 is a Saturday.
	return (n + 6) % 7, api.OK
}

// Add returns the day that is the given number of months later, or the last
// day of that month if the month is too short.
func Add(n, months int) (int, api.Errno) {
	d, err := Date(n)
	if err != api.OK || months < -allMonths || months > allMonths {
		return 0, api.ErrArg
	}
	index := monthIndex(d) + months
	if index < 0 || index >= allMonths {
		return 0, api.ErrLarge
	}
	return dayNumber(dateIn(index, d.D)), api.OK
}

// Last returns the last day of the month that contains day n.
func Last(n int) (int, api.Errno) {
	d, err := Date(n)
	if err != api.OK {
		return 0, err
	}
	d.D = monthLength(d.Y, d.M)
	return dayNumber(d), api.OK
}

// Months returns the greatest number m such that Add(a, m) is not after b.
func Months(a, b int) (int, api.Errno) {
	from, errFrom := Date(a)
	to, errTo := Date(b)
	if errFrom != api.OK || errTo != api.OK || b < a {
		return 0, api.ErrArg
	}
	// Going by the months alone leads into the month of b. If that is past b,
	// one month less is before it, because it ends in the month before.
	months := monthIndex(to) - monthIndex(from)
	if dateIn(monthIndex(to), from.D).D > to.D {
		months--
	}
	return months, api.OK
}

func validDay(n int) bool {
	return n >= 0 && n <= api.MaxDay
}

func validDate(d api.Day) bool {
	if d.Y < firstYear || d.Y > lastYear || d.M < 1 || d.M > yearMonths {
		return false
	}
	return d.D >= 1 && d.D <= monthLength(d.Y, d.M)
}

func leapYear(year int) bool {
	return year%4 == 0 && (year%100 != 0 || year%400 == 0)
}

func monthLength(year, month int) int {
	if month == 2 && leapYear(year) {
		return monthDays[1] + 1
	}
	return monthDays[month-1]
}

// yearStart returns the day number of January 1, also for the year after the
// last one.
func yearStart(year int) int {
	past := year - firstYear
	// The first year is divisible by 400. Rounding up counts the multiples of
	// 4, 100 and 400 among the past years with that year as one of them.
	leaps := (past+3)/4 - (past+99)/100 + (past+399)/400
	return past*365 + leaps
}

func dayNumber(d api.Day) int {
	n := yearStart(d.Y)
	for month := 1; month < d.M; month++ {
		n += monthLength(d.Y, month)
	}
	return n + d.D - 1
}

// monthIndex counts months from January of the first year, which is 0.
func monthIndex(d api.Day) int {
	return (d.Y-firstYear)*yearMonths + d.M - 1
}

// dateIn returns the given day of a month, or the month's last day if the
// month is too short.
func dateIn(index, day int) api.Day {
	year, month := firstYear+index/yearMonths, index%yearMonths+1
	return api.Day{Y: year, M: month, D: min(day, monthLength(year, month))}
}
