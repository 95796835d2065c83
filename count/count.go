// Package count tells what fraction of a year lies between two days: see
// doc/02-count.md.
package count

import (
	"tallage/api"
	"tallage/cal"
)

// Between returns the fraction of a year between days a and b under a day
// count convention, not reduced to lowest terms.
func Between(way, a, b int) (api.Frac, api.Errno) {
	from, errFrom := cal.Date(a)
	to, errTo := cal.Date(b)
	if errFrom != api.OK || errTo != api.OK || b < a {
		return api.Frac{}, api.ErrArg
	}
	switch way {
	case api.Act360:
		return api.Frac{Num: b - a, Den: 360}, api.OK
	case api.Act365:
		return api.Frac{Num: b - a, Den: 365}, api.OK
	case api.Euro30:
		return api.Frac{Num: euroDays(from, to), Den: 360}, api.OK
	}
	return api.Frac{}, api.ErrArg
}

// euroDays counts days as if every month had 30 of them.
func euroDays(from, to api.Day) int {
	return (to.Y-from.Y)*360 + (to.M-from.M)*30 + euroDay(to) - euroDay(from)
}

func euroDay(d api.Day) int {
	return min(d.D, 30)
}
