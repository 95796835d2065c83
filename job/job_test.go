package job_test

import (
	"fmt"
	"math"
	"math/rand"
	"reflect"
	"regexp"
	"slices"
	"testing"
	"time"

	"tallage/api"
	"tallage/book"
	"tallage/job"
)

const most = 1000000000000

// far are numbers that are no days.
var far = []int{math.MinInt, -2, -1, 292194, math.MaxInt}

// plan is a valid plan of three parts: 4, 3 and 4 on the days 30, 59 and 90.
func plan(key string) api.Plan {
	return api.Plan{Key: key, From: 30, Amount: 11, Num: 3, Debit: "50", Credit: "10"}
}

// plans are n valid plans with different keys.
func plans(n int) []api.Plan {
	l := make([]api.Plan, n)
	for i := range l {
		l[i] = plan(fmt.Sprintf("p%d", i))
	}
	return l
}

// changed is a valid plan after a change.
func changed(change func(p *api.Plan)) api.Plan {
	p := plan("x")
	change(&p)
	return p
}

// move is an entry that moves an amount from one account to another.
func move(key string, day, amount int, to, from string) api.Entry {
	return api.Entry{Key: key, Day: day, Lines: []api.Line{{Code: to, Amount: amount}, {Code: from, Amount: -amount}}}
}

// ledger is a book with the accounts of the plans.
func ledger(shut int, entries ...api.Entry) api.Book {
	return api.Book{
		Accts: []api.Acct{
			{Code: "10", Kind: api.Asset},
			{Code: "20", Kind: api.Liability},
			{Code: "40", Kind: api.Income},
			{Code: "50", Kind: api.Expense},
		},
		Entries: entries,
		Shut:    shut,
	}
}

func equalEntries(d, e api.Entry) bool {
	return d.Key == e.Key && d.Day == e.Day && slices.Equal(d.Lines, e.Lines)
}

func equal(a, b api.Book) bool {
	return a.Shut == b.Shut && slices.Equal(a.Accts, b.Accts) && slices.EqualFunc(a.Entries, b.Entries, equalEntries)
}

// short is the beginning of a value, as text.
func short(x any) string { return fmt.Sprintf("%.400s", fmt.Sprint(x)) }

func testCheck(t *testing.T, l []api.Plan, want api.Errno) {
	t.Helper()
	if err := job.Check(l); err != want {
		t.Errorf("Check(%s) = %d; want %d", short(l), err, want)
	}
}

func testDue(t *testing.T, l []api.Plan, day int, due []api.Entry, want api.Errno) {
	t.Helper()
	if x, err := job.Due(l, day); !slices.EqualFunc(x, due, equalEntries) || err != want {
		t.Errorf("Due(%s, %d) = %v, %d; want %v, %d", short(l), day, x, err, due, want)
	}
}

func testRun(t *testing.T, b api.Book, l []api.Plan, day int, after api.Book, want api.Errno) {
	t.Helper()
	if x, err := job.Run(b, l, day); !equal(x, after) || err != want {
		t.Errorf("Run(%s, %s, %d) = %v, %d; want %v, %d", short(b), short(l), day, x, err, after, want)
	}
}

// testNone: a list of plans that is not valid has the same error everywhere.
func testNone(t *testing.T, l []api.Plan, want api.Errno) {
	t.Helper()
	testCheck(t, l, want)
	testDue(t, l, 100, nil, want)
	testRun(t, ledger(-1), l, 100, api.Book{}, want)
}

// P50: keys, bounds and codes that are just valid.
func TestValid(t *testing.T) {
	for _, l := range [][]api.Plan{
		nil,
		{},
		{plan("a")},
		{plan("a"), plan("b"), plan("aa"), plan("0")},
		{plan("z"), plan("a")},
		{plan("abcdefghi"), plan("987654321")},
		plans(12),
		{changed(func(p *api.Plan) { p.Kind = 0 }), plan("y")},
		{changed(func(p *api.Plan) { p.Kind = 1 }), plan("y")},
		{changed(func(p *api.Plan) { p.From = 0 })},
		{changed(func(p *api.Plan) { p.From, p.Num = 292193, 1 })},
		{changed(func(p *api.Plan) { p.Amount = 0 })},
		{changed(func(p *api.Plan) { p.Amount = 1 })},
		{changed(func(p *api.Plan) { p.Amount = most })},
		{changed(func(p *api.Plan) { p.Num = 1 })},
		{changed(func(p *api.Plan) { p.Num = 40 })},
		{changed(func(p *api.Plan) { p.Debit, p.Credit = "0", "00" })},
		{changed(func(p *api.Plan) { p.Debit, p.Credit = "12345678", "1" })},
		{changed(func(p *api.Plan) { p.Debit, p.Credit = "1", "12345678" })},
		{changed(func(p *api.Plan) { p.Debit, p.Credit = "10", "50" }), plan("y")},
	} {
		testCheck(t, l, api.OK)
		if _, err := job.Due(l, 100); err != api.OK {
			t.Errorf("Due(%v, 100) = %d", l, err)
		}
	}
}

// P50: every byte at every place of a key, and its length.
func TestKeys(t *testing.T) {
	for _, n := range []int{0, 1, 2, 8, 9, 10, 11, 12, 13, 14, 100} {
		for at := range n {
			for c := range 256 {
				key := slices.Repeat([]byte{'k'}, n)
				key[at] = byte(c)
				want := api.ErrForm
				if keys.Match(key) {
					want = api.OK
				}
				testCheck(t, []api.Plan{plan(string(key))}, want)
			}
		}
	}
	for _, key := range []string{"", "-", "a-", "-a", "a-b", "--", "abcdefgh-", "abcdefghij", "A", "a b", "é"} {
		testNone(t, []api.Plan{plan(key)}, api.ErrForm)
	}
}

// onDay is the day number of a date.
func onDay(y, m, d int) int {
	return int(time.Date(y, time.Month(m), d, 0, 0, 0, 0, time.UTC).Unix()/86400 - time.Date(1600, 1, 1, 0, 0, 0, 0, time.UTC).Unix()/86400)
}

// P50: the last part is due in December 2399, or later.
func TestLastDay(t *testing.T) {
	for _, x := range []struct {
		from, num int
		want      api.Errno
	}{
		{onDay(2399, 12, 31), 1, api.OK},
		{onDay(2399, 12, 31), 2, api.ErrLarge},
		{onDay(2399, 12, 31), 40, api.ErrLarge},
		{onDay(2399, 12, 1), 1, api.OK},
		{onDay(2399, 12, 1), 2, api.ErrLarge},
		{onDay(2399, 11, 30), 2, api.OK},
		{onDay(2399, 11, 1), 2, api.OK},
		{onDay(2399, 11, 1), 3, api.ErrLarge},
		{onDay(2398, 12, 31), 13, api.OK},
		{onDay(2399, 1, 1), 13, api.ErrLarge},
		{onDay(2396, 9, 30), 40, api.OK},
		{onDay(2396, 9, 1), 40, api.OK},
		{onDay(2396, 10, 1), 40, api.ErrLarge},
		{onDay(2396, 10, 1), 39, api.OK},
	} {
		for _, kind := range []int{api.Straight, api.Falling} {
			for _, amount := range []int{0, 1, most} {
				p := changed(func(p *api.Plan) { p.From, p.Num, p.Kind, p.Amount = x.from, x.num, kind, amount })
				testCheck(t, []api.Plan{p}, x.want)
				testCheck(t, []api.Plan{plan("a"), p, plan("b")}, x.want)
				if x.want != api.OK {
					testNone(t, []api.Plan{p}, x.want)
				}
			}
		}
	}
}

// fault is one that a plan may have.
type fault struct {
	change func(p *api.Plan)
	want   api.Errno
}

// ranked are the faults of a plan, in lists of those that are checked
// together.
func ranked() [][]fault {
	var keys, numbers, codes []fault
	for _, key := range []string{"", "-", "a-b", "abcdefghij", "abcdefghijklm", "A", "\xff"} {
		keys = append(keys, fault{func(p *api.Plan) { p.Key = key }, api.ErrForm})
	}
	for _, n := range []int{math.MinInt, -1, 2, math.MaxInt} {
		numbers = append(numbers, fault{func(p *api.Plan) { p.Kind = n }, api.ErrArg})
	}
	for _, n := range far {
		numbers = append(numbers, fault{func(p *api.Plan) { p.From = n }, api.ErrArg})
	}
	for _, n := range []int{math.MinInt, -most, -1, most + 1, math.MaxInt} {
		numbers = append(numbers, fault{func(p *api.Plan) { p.Amount = n }, api.ErrArg})
	}
	for _, n := range []int{math.MinInt, -1, 0, 41, math.MaxInt} {
		numbers = append(numbers, fault{func(p *api.Plan) { p.Num = n }, api.ErrArg})
	}
	for _, code := range []string{"", "x", "1 ", "-1", "123456789", "\xff"} {
		codes = append(codes, fault{func(p *api.Plan) { p.Debit = code }, api.ErrForm})
		codes = append(codes, fault{func(p *api.Plan) { p.Credit = code }, api.ErrForm})
		codes = append(codes, fault{func(p *api.Plan) { p.Debit, p.Credit = code, code }, api.ErrForm})
	}
	codes = append(codes, fault{func(p *api.Plan) { p.Debit, p.Credit = "7", "7" }, api.ErrForm})
	late := []fault{{func(p *api.Plan) { p.From, p.Num = 292193, 2 }, api.ErrLarge}, {func(p *api.Plan) { p.From, p.Num = 292163, 40 }, api.ErrLarge}}
	there := []fault{{func(p *api.Plan) { p.Key = "p0" }, api.ErrThere}}
	return [][]fault{keys, numbers, codes, late, there}
}

// P50: each error at each place of a list, and the order of the errors of two
// plans and of one plan.
func TestErrors(t *testing.T) {
	faults := ranked()
	for rank, l := range faults {
		for _, f := range l {
			for at := range 12 {
				bad := plans(12)
				f.change(&bad[at])
				want := f.want
				if want == api.ErrThere && at == 0 {
					want = api.OK
				}
				testCheck(t, bad, want)
			}
			testTwo(t, faults, rank, f)
			testBefore(t, faults[:rank], f)
		}
	}
}

// testTwo: of two plans with a fault the first one has its error returned.
func testTwo(t *testing.T, faults [][]fault, rank int, f fault) {
	t.Helper()
	for other, l := range faults {
		if other == rank {
			continue
		}
		for _, g := range l {
			bad := plans(4)
			f.change(&bad[2])
			g.change(&bad[3])
			testNone(t, bad, f.want)
		}
	}
}

// testBefore: a plan with two faults has the error of the one that is checked
// first.
func testBefore(t *testing.T, earlier [][]fault, f fault) {
	t.Helper()
	for _, l := range earlier {
		for _, g := range l {
			bad := plans(4)
			f.change(&bad[3])
			g.change(&bad[3])
			testNone(t, bad, g.want)
		}
	}
}

// P50: too many plans, whatever they are.
func TestTooMany(t *testing.T) {
	for _, n := range []int{13, 14, 1000} {
		testNone(t, plans(n), api.ErrLarge)
		testNone(t, make([]api.Plan, n), api.ErrLarge)
		testNone(t, slices.Repeat(plans(1), n), api.ErrLarge)
	}
	testNone(t, append(plans(11), api.Plan{}), api.ErrForm)
}

// P50: equal keys with different plans, and far from each other.
func TestThere(t *testing.T) {
	for i := range 12 {
		for j := range i {
			l := plans(12)
			l[i].Key = l[j].Key
			l[i].Amount, l[i].Kind, l[i].Debit = 5, 1, "7"
			testNone(t, l, api.ErrThere)
		}
	}
	testNone(t, []api.Plan{plan("a"), plan("a"), {}}, api.ErrThere)
	testNone(t, []api.Plan{plan("a"), {}, plan("a")}, api.ErrForm)
}

// P51: parts of both kinds, ends of months, and the days around each part.
func TestDue(t *testing.T) {
	all := []api.Entry{
		move("x-00", 30, 4, "50", "10"),
		move("x-01", 59, 3, "50", "10"), // February 29
		move("x-02", 90, 4, "50", "10"), // March 31
	}
	falling := []api.Entry{
		move("y-00", 0, 6, "20", "40"),
		move("y-01", 31, 3, "20", "40"),
		move("y-02", 60, 2, "20", "40"),
	}
	x := plan("x")
	y := api.Plan{Key: "y", Kind: api.Falling, Amount: 11, Num: 3, Debit: "20", Credit: "40"}
	for _, c := range []struct{ day, x, y int }{
		{0, 0, 1}, {1, 0, 1}, {29, 0, 1}, {30, 1, 1}, {31, 1, 2}, {58, 1, 2}, {59, 2, 2}, {60, 2, 3}, {61, 2, 3}, {89, 2, 3}, {90, 3, 3}, {91, 3, 3}, {292193, 3, 3},
	} {
		testDue(t, []api.Plan{x}, c.day, all[:c.x], api.OK)
		testDue(t, []api.Plan{y}, c.day, falling[:c.y], api.OK)
		testDue(t, []api.Plan{x, y}, c.day, slices.Concat(all[:c.x], falling[:c.y]), api.OK)
		testDue(t, []api.Plan{y, x}, c.day, slices.Concat(falling[:c.y], all[:c.x]), api.OK)
		testDue(t, nil, c.day, nil, api.OK)
	}
}

// P51: parts of 0 have no entry, but a number.
func TestZeroParts(t *testing.T) {
	// 2 in 4 parts: 0.5, 1, 1.5 and 2, rounded.
	p := changed(func(p *api.Plan) { p.From, p.Amount, p.Num = 0, 2, 4 })
	testDue(t, []api.Plan{p}, 292193, []api.Entry{move("x-00", 0, 1, "50", "10"), move("x-02", 60, 1, "50", "10")}, api.OK)
	// 3 in 7 parts by the digits 7 to 1, of 28: 0.75, 1.39, 1.93, 2.36, 2.68,
	// 2.89 and 3, rounded.
	p.Kind, p.Amount, p.Num = api.Falling, 3, 7
	testDue(t, []api.Plan{p}, 292193, []api.Entry{move("x-00", 0, 1, "50", "10"), move("x-02", 60, 1, "50", "10"), move("x-04", 121, 1, "50", "10")}, api.OK)
	for _, kind := range []int{api.Straight, api.Falling} {
		p.Kind, p.Amount, p.Num = kind, 0, 40
		testDue(t, []api.Plan{p}, 292193, nil, api.OK)
		testDue(t, []api.Plan{p, plan("y")}, 30, []api.Entry{move("y-00", 30, 4, "50", "10")}, api.OK)
		p.Amount, p.Num = 0, 1
		testDue(t, []api.Plan{p}, 292193, nil, api.OK)
		p.Amount = most
		testDue(t, []api.Plan{p}, 0, []api.Entry{move("x-00", 0, most, "50", "10")}, api.OK)
	}
}

// P51: two digits for each of 40 parts, of the longest key, to the last day.
func TestPartKeys(t *testing.T) {
	p := changed(func(p *api.Plan) { p.Key, p.From, p.Amount, p.Num = "abcdefghi", onDay(2396, 9, 30), 40, 40 })
	x, err := job.Due([]api.Plan{p}, 292193)
	if len(x) != 40 || err != api.OK {
		t.Fatal(len(x), err)
	}
	for k, e := range x {
		on := onDay(2396, 9+k, 30)
		if m := (8 + k) % 12; m == 1 {
			on = onDay(2396, 9+k, 28)
		}
		if want := move(fmt.Sprintf("abcdefghi-%02d", k), on, 1, "50", "10"); !equalEntries(e, want) {
			t.Errorf("part %d is %v; want %v", k, e, want)
		}
	}
	if x[39].Day != onDay(2399, 12, 30) {
		t.Error(x[39])
	}
}

// P51: days that are none, after the errors of Check.
func TestDueErrors(t *testing.T) {
	for _, day := range far {
		for _, l := range [][]api.Plan{nil, plans(1), plans(12)} {
			testDue(t, l, day, nil, api.ErrArg)
			testRun(t, ledger(-1), l, day, api.Book{}, api.ErrArg)
		}
		testDue(t, plans(13), day, nil, api.ErrLarge)
		testDue(t, []api.Plan{{}}, day, nil, api.ErrForm)
		testDue(t, []api.Plan{plan("a"), plan("a")}, day, nil, api.ErrThere)
		testRun(t, ledger(-1), plans(13), day, api.Book{}, api.ErrLarge)
		testRun(t, ledger(-1), []api.Plan{{}}, day, api.Book{}, api.ErrForm)
	}
}

// P52: the entries are posted between those of the book.
func TestRun(t *testing.T) {
	own := []api.Entry{move("a", 20, 9, "10", "20"), move("y", 30, 9, "10", "20"), move("z", 100, 9, "10", "20")}
	due := []api.Entry{move("x-00", 30, 4, "50", "10"), move("x-01", 59, 3, "50", "10"), move("x-02", 90, 4, "50", "10")}
	l := []api.Plan{plan("x")}
	for _, c := range []struct {
		day     int
		entries []api.Entry
	}{
		{0, own},
		{29, own},
		{30, []api.Entry{own[0], due[0], own[1], own[2]}},
		{58, []api.Entry{own[0], due[0], own[1], own[2]}},
		{59, []api.Entry{own[0], due[0], own[1], due[1], own[2]}},
		{90, []api.Entry{own[0], due[0], own[1], due[1], due[2], own[2]}},
		{292193, []api.Entry{own[0], due[0], own[1], due[1], due[2], own[2]}},
	} {
		for _, shut := range []int{-1, 0, 29} {
			after := ledger(shut, c.entries...)
			testRun(t, ledger(shut, own...), l, c.day, after, api.OK)
			// Once more, and for an earlier day: nothing is new.
			for day := range min(c.day, 200) {
				testRun(t, after, l, day, after, api.OK)
			}
			testRun(t, after, l, c.day, after, api.OK)
		}
		testRun(t, ledger(7, own...), nil, c.day, ledger(7, own...), api.OK)
	}
	testRun(t, api.Book{Shut: -1}, nil, 5, api.Book{Shut: -1}, api.OK)
	testRun(t, api.Book{}, nil, 5, api.Book{}, api.OK)
}

// P52: a plan runs day by day, or at once, with the same book at the end.
func TestRunOften(t *testing.T) {
	l := []api.Plan{plan("x"), changed(func(p *api.Plan) { p.Key, p.Kind, p.From, p.Amount, p.Credit = "y", 1, 5, 100, "20" })}
	at, _ := job.Run(ledger(-1), l, 100)
	b := ledger(-1)
	for day := range 101 {
		b, _ = job.Run(b, l, day)
		// The days that are past may be closed.
		b, _ = book.Shut(b, day)
	}
	at, _ = book.Shut(at, 100)
	if !equal(b, at) || len(b.Entries) != 6 {
		t.Error(b, at)
	}
	// In any order of the plans and of the days.
	testRun(t, b, []api.Plan{l[1], l[0]}, 100, b, api.OK)
	c := ledger(-1)
	for _, day := range []int{60, 30, 100, 0} {
		c, _ = job.Run(c, l, day)
		c, _ = job.Run(c, []api.Plan{l[1], l[0]}, day)
	}
	if c.Shut = 100; !equal(c, b) {
		t.Error(c, b)
	}
	if n, err := book.Balance(b, "50", 100); n != 111 || err != api.OK {
		t.Error(n, err)
	}
}

// P52, P35: each error of book.Post, and the first one of several.
func TestRunErrors(t *testing.T) {
	l := []api.Plan{plan("x"), plan("y")}
	other := move("x-01", 59, 3, "50", "20")
	sameKey := move("x-01", 3, 3, "50", "10")
	none := changed(func(p *api.Plan) { p.Debit = "51" })
	noneToo := changed(func(p *api.Plan) { p.Credit = "1" })
	for _, x := range []struct {
		b    api.Book
		l    []api.Plan
		day  int
		want api.Errno
	}{
		// A different entry with the key.
		{ledger(-1, other), l, 59, api.ErrThere},
		{ledger(-1, sameKey), l, 59, api.ErrThere},
		{ledger(59, sameKey), l[:1], 59, api.ErrShut},
		{ledger(-1, move("y-02", 5, 1, "10", "20")), l, 90, api.ErrThere},
		// An account that does not exist.
		{ledger(-1), []api.Plan{none}, 30, api.ErrNone},
		{ledger(-1), []api.Plan{noneToo}, 30, api.ErrNone},
		{ledger(292193), []api.Plan{none}, 30, api.ErrNone},
		{ledger(-1), []api.Plan{plan("a"), none}, 30, api.ErrNone},
		{api.Book{Shut: -1}, l, 30, api.ErrNone},
		{ledger(-1, move("x-00", 30, 4, "50", "10")), []api.Plan{none}, 30, api.ErrThere},
		// A closed period.
		{ledger(30), l, 30, api.ErrShut},
		{ledger(30), l, 100, api.ErrShut},
		{ledger(292193), l, 30, api.ErrShut},
		{ledger(59, move("x-00", 30, 4, "50", "10")), l[:1], 90, api.ErrShut},
		// Of several errors the one of the first entry: y-00 before x-01.
		{ledger(30, sameKey), []api.Plan{plan("y"), plan("x")}, 59, api.ErrShut},
		{ledger(30, move("x-00", 30, 1, "50", "10")), l, 59, api.ErrThere},
		{ledger(-1, other), []api.Plan{plan("x"), changed(func(p *api.Plan) { p.Key, p.Debit = "y", "1" })}, 59, api.ErrThere},
		{ledger(-1, other), []api.Plan{changed(func(p *api.Plan) { p.Key, p.Debit = "y", "1" }), plan("x")}, 59, api.ErrNone},
	} {
		testRun(t, x.b, x.l, x.day, api.Book{}, x.want)
	}
	// What is not due, or 0, has no error.
	testRun(t, ledger(-1, other), l, 58, ledger(-1, move("x-00", 30, 4, "50", "10"), move("y-00", 30, 4, "50", "10"), other), api.OK)
	testRun(t, ledger(29), []api.Plan{none}, 29, ledger(29), api.OK)
	none.Amount = 0
	testRun(t, ledger(292193), []api.Plan{none}, 292193, ledger(292193), api.OK)
}

// P52: the entries of the longest book.
func TestRunLimits(t *testing.T) {
	long := func(key string, num int) api.Plan {
		return api.Plan{Key: key, Amount: 1000, Num: num, Debit: "50", Credit: "10"}
	}
	full, err := job.Run(ledger(-1), []api.Plan{long("a", 40), long("b", 20)}, 292193)
	if len(full.Entries) != 60 || err != api.OK || book.Check(full) != api.OK {
		t.Fatal(len(full.Entries), err)
	}
	testRun(t, full, []api.Plan{long("b", 20), long("a", 40)}, 292193, full, api.OK)
	testRun(t, full, []api.Plan{long("b", 20), plan("x")}, 29, full, api.OK)
	testRun(t, full, []api.Plan{long("b", 20), plan("x")}, 30, api.Book{}, api.ErrLarge)
	testRun(t, ledger(-1), []api.Plan{long("a", 40), long("b", 21)}, 292193, api.Book{}, api.ErrLarge)
	testRun(t, ledger(-1), []api.Plan{long("a", 40), long("b", 40)}, 292193, api.Book{}, api.ErrLarge)
	// The parts of b are as many by then, of which 20 are in the book.
	most := ledger(-1, full.Entries[:59]...)
	if x, err := job.Run(most, []api.Plan{long("a", 40), long("b", 20)}, 292193); !equal(x, full) || err != api.OK {
		t.Error(x, err)
	}
	all := make([]api.Plan, 12)
	for i := range all {
		all[i] = long(string(rune('a'+i)), 40)
	}
	if x, err := job.Due(all, 292193); len(x) != 480 || err != api.OK {
		t.Error(len(x), err)
	}
	if x, err := job.Run(ledger(-1), all, 121); len(x.Entries) != 60 || err != api.OK {
		t.Error(len(x.Entries), err)
	}
	testRun(t, ledger(-1), all, 152, api.Book{}, api.ErrLarge)
}

// P52: the error of book.Check comes first.
func TestCheckedFirst(t *testing.T) {
	for _, x := range []struct {
		b    api.Book
		want api.Errno
	}{
		{api.Book{Accts: make([]api.Acct, 25), Shut: -1}, api.ErrLarge},
		{api.Book{Accts: []api.Acct{{Code: "x"}}, Shut: -1}, api.ErrForm},
		{api.Book{Accts: []api.Acct{{Code: "1", Kind: 5}}, Shut: -1}, api.ErrArg},
		{ledger(-2), api.ErrArg},
		{ledger(292194), api.ErrArg},
		{ledger(-1, make([]api.Entry, 61)...), api.ErrLarge},
		{ledger(-1, move("a", 5, 1, "10", "99")), api.ErrNone},
		{ledger(-1, move("a", 5, 1, "10", "10")), api.ErrThere},
		{ledger(-1, move("b", 5, 1, "10", "20"), move("a", 5, 1, "10", "20")), api.ErrForm},
		{ledger(-1, api.Entry{Key: "a", Day: 5}), api.ErrSum},
	} {
		for _, day := range append([]int{0, 30, 292193}, far...) {
			for _, l := range [][]api.Plan{nil, plans(2), plans(13), {{}}, {plan("a"), plan("a")}, {changed(func(p *api.Plan) { p.Debit = "1" })}} {
				testRun(t, x.b, l, day, api.Book{}, x.want)
			}
		}
	}
}

// half rounds a quotient to the nearest number, and up from the middle.
func half(num, den int) int { return (2*num + den) / (2 * den) }

// readParts follows P20 and P21.
func readParts(p api.Plan) []int {
	l := make([]int, p.Num)
	all, past, sum := p.Num*(p.Num+1)/2, 0, 0
	for k := range l {
		past += p.Num - k
		now := half(p.Amount*(k+1), p.Num)
		if p.Kind == 1 {
			now = half(p.Amount*past, all)
		}
		l[k], sum = now-sum, now
	}
	return l
}

// readMonth is the day some months after a day, by the calendar of package
// time.
func readMonth(from, k int) int {
	d := time.Date(1600, 1, 1, 0, 0, 0, 0, time.UTC).AddDate(0, 0, from)
	to := time.Date(d.Year(), d.Month()+time.Month(k), d.Day(), 0, 0, 0, 0, time.UTC)
	if to.Day() != d.Day() {
		// The day is not in that month: go back to the end of that month.
		to = to.AddDate(0, 0, -to.Day())
	}
	return onDay(to.Year(), int(to.Month()), to.Day())
}

var (
	keys  = regexp.MustCompile(`\A[a-z0-9]{1,9}\z`)
	codes = regexp.MustCompile(`\A[0-9]{1,8}\z`)
)

// readCheck is P50, word by word.
func readCheck(l []api.Plan) api.Errno {
	if len(l) > 12 {
		return api.ErrLarge
	}
	seen := map[string]bool{}
	for _, p := range l {
		switch {
		case !keys.MatchString(p.Key):
			return api.ErrForm
		case p.Kind < 0 || p.Kind > 1 || p.From < 0 || p.From > 292193 || p.Amount < 0 || p.Amount > most || p.Num < 1 || p.Num > 40:
			return api.ErrArg
		case !codes.MatchString(p.Debit) || !codes.MatchString(p.Credit) || p.Debit == p.Credit:
			return api.ErrForm
		case readMonth(p.From, p.Num-1) > 292193:
			return api.ErrLarge
		case seen[p.Key]:
			return api.ErrThere
		}
		seen[p.Key] = true
	}
	return api.OK
}

// readDue is P51, word by word.
func readDue(l []api.Plan, day int) ([]api.Entry, api.Errno) {
	if err := readCheck(l); err != api.OK {
		return nil, err
	}
	if day < 0 || day > 292193 {
		return nil, api.ErrArg
	}
	var due []api.Entry
	for _, p := range l {
		for k, n := range readParts(p) {
			if on := readMonth(p.From, k); on <= day && n != 0 {
				due = append(due, move(fmt.Sprintf("%s-%02d", p.Key, k), on, n, p.Debit, p.Credit))
			}
		}
	}
	return due, api.OK
}

// readRun is P52, word by word.
func readRun(b api.Book, l []api.Plan, day int) (api.Book, api.Errno) {
	if err := book.Check(b); err != api.OK {
		return api.Book{}, err
	}
	due, err := readDue(l, day)
	for _, e := range due {
		if err == api.OK {
			b, err = book.Post(b, e)
		}
	}
	if err != api.OK {
		return api.Book{}, err
	}
	return b, api.OK
}

// randomFrom is a day, most often one of the first months or near an end of a
// month.
func randomFrom(r *rand.Rand) int {
	switch r.Intn(4) {
	case 0:
		return r.Intn(292194)
	case 1:
		return onDay(1600+r.Intn(800), 1+r.Intn(12), 28+r.Intn(3))
	}
	return r.Intn(200)
}

// randomPlan is not valid now and then.
func randomPlan(r *rand.Rand) api.Plan {
	p := api.Plan{
		Key:    []string{"a", "b", "c", "d", "e", "f", "abcdefghi", "0", "1", "2", "3", "4", "5", "6"}[r.Intn(14)],
		Kind:   r.Intn(2),
		From:   min(randomFrom(r), 292193),
		Amount: []int{r.Intn(5), r.Intn(100), r.Intn(most + 1), most}[r.Intn(4)],
		Num:    []int{1 + r.Intn(40), 1 + r.Intn(5)}[r.Intn(2)],
		Debit:  []string{"10", "20"}[r.Intn(2)],
		Credit: []string{"40", "50"}[r.Intn(2)],
	}
	switch r.Intn(200) {
	case 0:
		p.Key = "a-b"
	case 1:
		p.Num = 41 * r.Intn(2)
	case 2:
		p.Credit = p.Debit
	case 3:
		p.From = 292193 - r.Intn(900)
	case 4:
		p.Debit = "30"
	}
	return p
}

// P50 to P52: plans at random against direct readings. Each list runs again,
// in the book that it gave.
func TestDefinition(t *testing.T) {
	r := rand.New(rand.NewSource(50))
	checked, run := map[api.Errno]int{}, map[api.Errno]int{}
	for range 20000 {
		l := make([]api.Plan, r.Intn(5))
		if r.Intn(10) == 0 {
			l = make([]api.Plan, r.Intn(15))
		}
		for i := range l {
			l[i] = randomPlan(r)
		}
		err := readCheck(l)
		testCheck(t, l, err)
		checked[err]++
		day := []int{r.Intn(400) - 1, r.Intn(292194)}[r.Intn(2)]
		due, err := readDue(l, day)
		testDue(t, l, day, due, err)
		b := ledger(max(r.Intn(300)-200, -1))
		if len(due) > 0 && r.Intn(4) == 0 {
			// One of the parts is in the book, or another entry with its key.
			e := due[r.Intn(len(due))]
			b.Entries = []api.Entry{move(e.Key, e.Day, max(1, e.Lines[0].Amount-r.Intn(2)), "20", "40")}
		}
		after, err := readRun(b, l, day)
		testRun(t, b, l, day, after, err)
		run[err]++
		if err == api.OK {
			testRun(t, after, l, day, after, api.OK)
		}
		if t.Failed() {
			return
		}
	}
	for _, err := range []api.Errno{api.OK, api.ErrArg, api.ErrLarge, api.ErrForm, api.ErrThere} {
		if checked[err] < 100 {
			t.Errorf("only %d lists with error %d", checked[err], err)
		}
	}
	for _, err := range []api.Errno{api.OK, api.ErrArg, api.ErrLarge, api.ErrForm, api.ErrNone, api.ErrThere, api.ErrShut} {
		if run[err] < 50 {
			t.Errorf("only %d runs with error %d", run[err], err)
		}
	}
}

// spacious are a book and a list of plans whose slices all have spare capacity
// that is in use.
func spacious() (api.Book, []api.Plan) {
	lines := []api.Line{{Code: "10", Amount: 7}, {Code: "20", Amount: -7}, {Code: "spare", Amount: 1}}
	b := ledger(-1, api.Entry{Key: "a", Day: 1, Lines: lines[:2]}, move("spare", 2, 1, "spare", "too"))
	b.Entries = b.Entries[:1]
	b.Accts = append(b.Accts, api.Acct{Code: "spare", Kind: 77})[:4]
	return b, []api.Plan{plan("x"), plan("y"), {Key: "spare"}}[:2]
}

// overwrite changes all memory of the entries.
func overwrite(l []api.Entry) {
	l = l[:cap(l)]
	for i, e := range l {
		lines := e.Lines[:cap(e.Lines)]
		for j := range lines {
			lines[j] = api.Line{Code: "changed", Amount: -1}
		}
		l[i] = api.Entry{Key: "changed", Day: -1}
	}
}

// P2: the arguments stay as they are, with their spare capacity, and share no
// memory with a result, even if nothing is due.
func TestMemory(t *testing.T) {
	b, l := spacious()
	sameBook, samePlans := spacious()
	for _, day := range []int{0, 29, 30, 60, 100} {
		first, err := job.Run(b, l, day)
		if err != api.OK {
			t.Fatal(err)
		}
		second, _ := job.Run(b, l, day)
		overwrite(second.Entries)
		for i := range second.Accts[:cap(second.Accts)] {
			second.Accts[:cap(second.Accts)][i] = api.Acct{Code: "changed", Kind: -1}
		}
		due, _ := job.Due(l, day)
		overwrite(due)
		if third, _ := job.Run(b, l, day); !equal(first, third) || book.Check(first) != api.OK {
			t.Errorf("on day %d: %v, then %v", day, first, third)
		}
	}
	if !reflect.DeepEqual(b.Accts[:cap(b.Accts)], sameBook.Accts[:cap(sameBook.Accts)]) || !reflect.DeepEqual(b.Entries[:2], sameBook.Entries[:2]) || !reflect.DeepEqual(b.Entries[0].Lines[:3], sameBook.Entries[0].Lines[:3]) {
		t.Error(b)
	}
	if !reflect.DeepEqual(l[:3], samePlans[:3]) {
		t.Error(l[:3])
	}
}

// P2: no two entries of a result share memory.
func TestOwnMemory(t *testing.T) {
	due, _ := job.Due([]api.Plan{plan("x"), plan("y")}, 100)
	b, _ := job.Run(ledger(-1), []api.Plan{plan("x"), plan("y")}, 100)
	for _, l := range [][]api.Entry{due, b.Entries} {
		if len(l) != 6 {
			t.Fatal(l)
		}
		for i, e := range l {
			for j := range e.Lines[:cap(e.Lines)] {
				e.Lines[:cap(e.Lines)][j] = api.Line{Amount: i}
			}
			for _, later := range l[i+1:] {
				if len(later.Lines) != 2 || later.Lines[0].Code != "50" {
					t.Fatalf("entries share lines: %v", l)
				}
			}
		}
	}
}
