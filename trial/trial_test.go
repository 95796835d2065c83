package trial_test

import (
	"fmt"
	"math"
	"math/rand"
	"reflect"
	"slices"
	"strconv"
	"testing"

	"tallage/api"
	"tallage/book"
	"tallage/trial"
)

// far are numbers that are no days.
var far = []int{math.MinInt, -2, -1, api.MaxDay + 1, math.MaxInt}

// chart has two accounts of each kind, whose order is not that of the kinds.
func chart() []api.Acct {
	return []api.Acct{
		{Code: "1", Kind: api.Expense},
		{Code: "10", Kind: api.Asset},
		{Code: "11", Kind: api.Equity},
		{Code: "2", Kind: api.Liability},
		{Code: "20", Kind: api.Income},
		{Code: "3", Kind: api.Asset},
		{Code: "4", Kind: api.Equity},
		{Code: "5", Kind: api.Expense},
		{Code: "6", Kind: api.Income},
		{Code: "7", Kind: api.Liability},
	}
}

// of is an open book with these entries.
func of(entries ...api.Entry) api.Book {
	return api.Book{Accts: chart(), Entries: entries, Shut: -1}
}

// move moves an amount from one account to another.
func move(key string, day, amount int, to, from string) api.Entry {
	return api.Entry{Key: key, Day: day, Lines: []api.Line{{Code: to, Amount: amount}, {Code: from, Amount: -amount}}}
}

// year is a book in which every account has lines, on the days 5 to 12.
func year() api.Book {
	return of(
		move("a", 5, 100, "10", "11"), // capital
		move("b", 6, 70, "3", "2"),    // a loan
		move("c", 7, 40, "10", "20"),  // sales, two on a day
		move("d", 7, 9, "3", "6"),
		move("e", 8, 15, "1", "10"), // rent and interest
		api.Entry{Key: "f", Day: 8, Lines: []api.Line{{Code: "5", Amount: 6}, {Code: "2", Amount: 20}, {Code: "10", Amount: -26}}},
		move("g", 9, 120, "7", "10"), // the second liability is overpaid
		move("h", 10, 30, "4", "3"),  // an owner draws
		move("i", 12, 5, "6", "3"),   // a sale is taken back in part
	)
}

// rich has 60 entries of the greatest amount from one account to another.
func rich(to, from string) api.Book {
	b := of()
	for i := range 60 {
		b.Entries = append(b.Entries, move("n"+strconv.Itoa(i), 100+i, api.MaxMoney, to, from))
	}
	return b
}

// wide has 60 entries of 12 lines each, as great as can be: six accounts of
// one kind grow, and six of another kind fall.
func wide(up, down int) api.Book {
	b := api.Book{Shut: -1}
	for i := range 6 {
		b.Accts = append(b.Accts, api.Acct{Code: strconv.Itoa(10 + 2*i), Kind: up}, api.Acct{Code: strconv.Itoa(11 + 2*i), Kind: down})
	}
	for i := range 60 {
		e := api.Entry{Key: "n" + strconv.Itoa(i), Day: 100 + i}
		for j := range 12 {
			e.Lines = append(e.Lines, api.Line{Code: strconv.Itoa(10 + j), Amount: api.MaxMoney * (1 - j%2*2)})
		}
		b.Entries = append(b.Entries, e)
	}
	return b
}

// short is the beginning of a book, as text.
func short(b api.Book) string { return fmt.Sprintf("%.300s", fmt.Sprint(b)) }

func isDay(n int) bool { return n >= 0 && n <= 292193 }

// readTrial is P39, from the balances.
func readTrial(b api.Book, day int) (int, int, api.Errno) {
	if err := book.Check(b); err != api.OK {
		return 0, 0, err
	}
	if !isDay(day) {
		return 0, 0, api.ErrArg
	}
	above, below := 0, 0
	for _, a := range b.Accts {
		n, _ := book.Balance(b, a.Code, day)
		if n > 0 {
			above += n
		}
		if n < 0 {
			below += n
		}
	}
	return above, -below, api.OK
}

// readProfit is P40, from the lines, account by account.
func readProfit(b api.Book, from, to int) (int, api.Errno) {
	if err := book.Check(b); err != api.OK {
		return 0, err
	}
	if !isDay(from) || !isDay(to) || to < from {
		return 0, api.ErrArg
	}
	sum := 0
	for _, a := range b.Accts {
		if a.Kind != api.Income && a.Kind != api.Expense {
			continue
		}
		for _, e := range b.Entries {
			for _, x := range e.Lines {
				if x.Code == a.Code && e.Day >= from && e.Day <= to {
					sum += x.Amount
				}
			}
		}
	}
	return -sum, api.OK
}

// readSheet is P41, from the balances.
func readSheet(b api.Book, day int) (int, int, int, api.Errno) {
	if err := book.Check(b); err != api.OK {
		return 0, 0, 0, err
	}
	if !isDay(day) {
		return 0, 0, 0, api.ErrArg
	}
	assets, liabilities, equity := 0, 0, 0
	for _, a := range b.Accts {
		n, _ := book.Balance(b, a.Code, day)
		switch a.Kind {
		case api.Asset:
			assets += n
		case api.Liability:
			liabilities -= n
		case api.Equity:
			equity -= n
		}
	}
	return assets, liabilities, equity, api.OK
}

func testTrial(t *testing.T, b api.Book, day, debits, credits int, want api.Errno) {
	t.Helper()
	if p, q, err := trial.Trial(b, day); p != debits || q != credits || err != want {
		t.Errorf("Trial(%s, %d) = %d, %d, %d; want %d, %d, %d", short(b), day, p, q, err, debits, credits, want)
	}
}

func testProfit(t *testing.T, b api.Book, from, to, profit int, want api.Errno) {
	t.Helper()
	if n, err := trial.Profit(b, from, to); n != profit || err != want {
		t.Errorf("Profit(%s, %d, %d) = %d, %d; want %d, %d", short(b), from, to, n, err, profit, want)
	}
}

func testSheet(t *testing.T, b api.Book, day, assets, liabilities, equity int, want api.Errno) {
	t.Helper()
	if x, y, z, err := trial.Sheet(b, day); x != assets || y != liabilities || z != equity || err != want {
		t.Errorf("Sheet(%s, %d) = %d, %d, %d, %d; want %d, %d, %d, %d", short(b), day, x, y, z, err, assets, liabilities, equity, want)
	}
}

// P39: the days around each entry. A balance counts as a whole, and not with
// other balances of its kind.
func TestTrial(t *testing.T) {
	for _, x := range []struct{ day, want int }{
		{0, 0}, {4, 0}, {5, 100}, {6, 170}, {7, 219}, {8, 199}, {9, 220}, {10, 220}, {11, 220}, {12, 215}, {13, 215}, {api.MaxDay, 215},
	} {
		testTrial(t, year(), x.day, x.want, x.want, api.OK)
	}
	back := of(move("a", 5, 7, "10", "2"), move("b", 6, 7, "2", "10"), move("c", 7, 9, "2", "10"))
	testTrial(t, back, 5, 7, 7, api.OK)
	testTrial(t, back, 6, 0, 0, api.OK)
	testTrial(t, back, 7, 9, 9, api.OK)
	testTrial(t, of(move("a", 5, 7, "10", "3")), 5, 7, 7, api.OK)
	testTrial(t, of(move("a", 0, 7, "10", "3")), 0, 7, 7, api.OK)
	testTrial(t, of(move("a", api.MaxDay, 7, "10", "3")), api.MaxDay-1, 0, 0, api.OK)
	testTrial(t, of(move("a", api.MaxDay, 7, "10", "3")), api.MaxDay, 7, 7, api.OK)
}

// P40: both ends of a period, profits, losses, and lines that are no profit.
func TestProfit(t *testing.T) {
	for _, x := range []struct{ from, to, want int }{
		{0, api.MaxDay, 23},
		{0, 0, 0},
		{0, 6, 0},
		{0, 7, 49},
		{0, 8, 28},
		{5, 6, 0},
		{6, 7, 49},
		{7, 7, 49},
		{7, 8, 28},
		{7, 11, 28},
		{7, 12, 23},
		{8, 8, -21},
		{8, 11, -21},
		{8, 12, -26},
		{9, 11, 0},
		{9, 12, -5},
		{12, 12, -5},
		{12, api.MaxDay, -5},
		{13, api.MaxDay, 0},
		{api.MaxDay, api.MaxDay, 0},
	} {
		testProfit(t, year(), x.from, x.to, x.want, api.OK)
	}
	testProfit(t, of(move("a", 0, 7, "10", "20")), 0, 0, 7, api.OK)
	testProfit(t, of(move("a", 0, 7, "10", "20")), 1, 1, 0, api.OK)
	testProfit(t, of(move("a", api.MaxDay, 7, "10", "6")), api.MaxDay, api.MaxDay, 7, api.OK)
	testProfit(t, of(move("a", api.MaxDay, 7, "10", "6")), 0, api.MaxDay-1, 0, api.OK)
	testProfit(t, of(move("a", 5, 7, "1", "20")), 5, 5, 0, api.OK)
	testProfit(t, of(move("a", 5, 7, "10", "2"), move("b", 5, 8, "3", "4")), 5, 5, 0, api.OK)
}

// P41: the days around each entry, and balances of either sign.
func TestSheet(t *testing.T) {
	for _, x := range []struct{ day, assets, liabilities, equity int }{
		{0, 0, 0, 0},
		{4, 0, 0, 0},
		{5, 100, 0, 100},
		{6, 170, 70, 100},
		{7, 219, 70, 100},
		{8, 178, 50, 100},
		{9, 58, -70, 100},
		{10, 28, -70, 70},
		{11, 28, -70, 70},
		{12, 23, -70, 70},
		{13, 23, -70, 70},
		{api.MaxDay, 23, -70, 70},
	} {
		testSheet(t, year(), x.day, x.assets, x.liabilities, x.equity, api.OK)
	}
	testSheet(t, of(move("a", 5, 7, "1", "3")), 5, -7, 0, 0, api.OK)
	testSheet(t, of(move("a", 5, 7, "4", "20")), 5, 0, 0, -7, api.OK)
	testSheet(t, of(move("a", 5, 7, "1", "20")), 5, 0, 0, 0, api.OK)
	testSheet(t, of(move("a", 5, 7, "10", "3")), 5, 0, 0, 0, api.OK)
	testSheet(t, of(move("a", 0, 7, "10", "7")), 0, 7, 7, 0, api.OK)
	testSheet(t, of(move("a", api.MaxDay, 7, "10", "7")), api.MaxDay-1, 0, 0, 0, api.OK)
	testSheet(t, of(move("a", api.MaxDay, 7, "10", "7")), api.MaxDay, 7, 7, 0, api.OK)
}

// P39 to P41: books without entries or accounts come to nothing, but their
// days must be valid as well.
func TestEmpty(t *testing.T) {
	for _, b := range []api.Book{of(), {Shut: -1}, {}, {Shut: api.MaxDay, Accts: []api.Acct{}, Entries: []api.Entry{}}} {
		for _, day := range []int{0, 5, api.MaxDay} {
			testTrial(t, b, day, 0, 0, api.OK)
			testProfit(t, b, day, day, 0, api.OK)
			testProfit(t, b, 0, day, 0, api.OK)
			testSheet(t, b, day, 0, 0, 0, api.OK)
		}
		testBadDays(t, b)
		testProfit(t, b, 6, 5, 0, api.ErrArg)
	}
}

// P39 to P41: the greatest sums.
func TestLimits(t *testing.T) {
	const most = 60 * api.MaxMoney
	testTrial(t, rich("10", "20"), api.MaxDay, most, most, api.OK)
	testTrial(t, rich("20", "10"), 158, most-api.MaxMoney, most-api.MaxMoney, api.OK)
	testProfit(t, rich("10", "20"), 0, api.MaxDay, most, api.OK)
	testProfit(t, rich("5", "10"), 100, 159, -most, api.OK)
	testProfit(t, rich("5", "10"), 101, 158, -58*api.MaxMoney, api.OK)
	testSheet(t, rich("10", "2"), api.MaxDay, most, most, 0, api.OK)
	testSheet(t, rich("4", "10"), 159, -most, 0, -most, api.OK)
	for _, x := range []struct{ up, down, profit, assets, liabilities, equity int }{
		{api.Asset, api.Liability, 0, 1, 1, 0},
		{api.Equity, api.Asset, 0, -1, 0, -1},
		{api.Asset, api.Income, 1, 1, 0, 0},
		{api.Expense, api.Liability, -1, 0, 1, 0},
		{api.Liability, api.Equity, 0, 0, -1, 1},
		{api.Expense, api.Income, 0, 0, 0, 0},
	} {
		b := wide(x.up, x.down)
		testTrial(t, b, api.MaxDay, 6*most, 6*most, api.OK)
		testProfit(t, b, 0, api.MaxDay, x.profit*6*most, api.OK)
		testSheet(t, b, api.MaxDay, x.assets*6*most, x.liabilities*6*most, x.equity*6*most, api.OK)
	}
}

// P39 to P41: a closed period makes no difference.
func TestShutBook(t *testing.T) {
	for _, shut := range []int{0, 5, 8, 12, api.MaxDay} {
		b := year()
		b.Shut = shut
		testTrial(t, b, 8, 199, 199, api.OK)
		testProfit(t, b, 7, 12, 23, api.OK)
		testSheet(t, b, 10, 28, -70, 70, api.OK)
	}
}

func testBadDays(t *testing.T, b api.Book) {
	t.Helper()
	for _, day := range far {
		testTrial(t, b, day, 0, 0, api.ErrArg)
		testSheet(t, b, day, 0, 0, 0, api.ErrArg)
		for _, other := range append([]int{0, 7, api.MaxDay}, far...) {
			testProfit(t, b, day, other, 0, api.ErrArg)
			testProfit(t, b, other, day, 0, api.ErrArg)
		}
	}
}

// P39, P40: days that are not valid, and periods that end before they begin.
func TestDays(t *testing.T) {
	testBadDays(t, year())
	for _, x := range []struct{ from, to int }{{1, 0}, {7, 6}, {8, 7}, {api.MaxDay, 0}, {api.MaxDay, api.MaxDay - 1}} {
		testProfit(t, year(), x.from, x.to, 0, api.ErrArg)
	}
}

// P39: the error of book.Check comes first.
func TestCheckedFirst(t *testing.T) {
	full := rich("10", "20")
	full.Entries = append(full.Entries, move("z", 200, 1, "10", "20"))
	bad := year()
	bad.Shut = -2
	for _, x := range []struct {
		b    api.Book
		want api.Errno
	}{
		{api.Book{Accts: make([]api.Acct, 25), Shut: -1}, api.ErrLarge},
		{api.Book{Accts: []api.Acct{{Code: "x"}}, Shut: -1}, api.ErrForm},
		{api.Book{Accts: []api.Acct{{Code: "1", Kind: 5}}, Shut: -1}, api.ErrArg},
		{api.Book{Accts: []api.Acct{{Code: "1", Kind: -1}}, Shut: -1}, api.ErrArg},
		{api.Book{Accts: []api.Acct{{Code: "1", Kind: math.MaxInt}}, Shut: -1}, api.ErrArg},
		{api.Book{Entries: year().Entries, Shut: -1}, api.ErrNone},
		{bad, api.ErrArg},
		{full, api.ErrLarge},
		{of(move("A", 5, 1, "10", "20")), api.ErrForm},
		{of(move("a", 5, 0, "10", "20")), api.ErrArg},
		{of(move("a", 5, math.MinInt, "10", "20")), api.ErrArg},
		{of(move("a", -1, 1, "10", "20")), api.ErrArg},
		{of(move("a", 5, 1, "10", "10")), api.ErrThere},
		{of(move("a", 5, 1, "10", "99")), api.ErrNone},
		{of(move("a", 5, 1, "10", "20"), move("a", 6, 1, "10", "20")), api.ErrThere},
		{of(move("b", 5, 1, "10", "20"), move("a", 5, 1, "10", "20")), api.ErrForm},
		{of(api.Entry{Key: "a", Day: 5, Lines: []api.Line{{Code: "10", Amount: 7}, {Code: "20", Amount: -6}}}), api.ErrSum},
		{of(api.Entry{Key: "a", Day: 5}), api.ErrSum},
		// Errors in entries after the day or before the period count too.
		{of(move("a", 5, 1, "10", "20"), move("b", 292000, 1, "10", "99")), api.ErrNone},
		{of(move("a", 0, 1, "10", "99"), move("b", 292000, 1, "10", "20")), api.ErrNone},
	} {
		for _, day := range append([]int{0, 5, 10, api.MaxDay}, far...) {
			testTrial(t, x.b, day, 0, 0, x.want)
			testSheet(t, x.b, day, 0, 0, 0, x.want)
			for _, to := range []int{math.MinInt, -1, 0, 5, 10, math.MaxInt} {
				testProfit(t, x.b, day, to, 0, x.want)
			}
		}
	}
}

// randomEntry moves amounts between two to ten accounts.
func randomEntry(r *rand.Rand, key string, accts []api.Acct) api.Entry {
	e := api.Entry{Key: key, Day: r.Intn(12)}
	rest := 0
	order := r.Perm(len(accts))[:2+r.Intn(len(accts)-1)]
	for _, i := range order[1:] {
		n := 1 + r.Intn(9)
		if r.Intn(2) == 0 {
			n = -n
		}
		rest -= n
		e.Lines = append(e.Lines, api.Line{Code: accts[i].Code, Amount: n})
	}
	// A line of 0 is not valid. There are two other lines at least if the rest
	// is 0.
	if rest != 0 {
		e.Lines = append(e.Lines, api.Line{Code: accts[order[0]].Code, Amount: rest})
	}
	return e
}

// randomBook has accounts of random kinds. A few books are not valid.
func randomBook(r *rand.Rand) api.Book {
	b := of()
	b.Shut = r.Intn(12) - 1
	for i := range b.Accts {
		b.Accts[i].Kind = r.Intn(5)
	}
	for i := range r.Intn(12) {
		b.Entries = append(b.Entries, randomEntry(r, "k"+strconv.Itoa(10+i), b.Accts))
	}
	slices.SortStableFunc(b.Entries, func(d, e api.Entry) int { return d.Day - e.Day })
	switch r.Intn(20) {
	case 0:
		b.Shut = -2
	case 1:
		b.Accts = slices.Delete(b.Accts, 4, 5)
	case 2:
		slices.Reverse(b.Entries)
	}
	return b
}

// P39 to P41: books at random against direct readings.
func TestDefinition(t *testing.T) {
	r := rand.New(rand.NewSource(39))
	seen := map[api.Errno]int{}
	for range 4000 {
		b := randomBook(r)
		seen[book.Check(b)]++
		from, to := r.Intn(14)-1, r.Intn(14)-1
		debits, credits, err := readTrial(b, to)
		testTrial(t, b, to, debits, credits, err)
		profit, err := readProfit(b, from, to)
		testProfit(t, b, from, to, profit, err)
		assets, liabilities, equity, err := readSheet(b, to)
		testSheet(t, b, to, assets, liabilities, equity, err)
		if t.Failed() {
			return
		}
		testEquations(t, b, to)
	}
	for _, err := range []api.Errno{api.OK, api.ErrArg, api.ErrForm, api.ErrNone} {
		if seen[err] < 100 {
			t.Errorf("only %d books with error %d", seen[err], err)
		}
	}
}

// testEquations: debits equal credits, and the assets belong to the creditors,
// to the owners, or are profit.
func testEquations(t *testing.T, b api.Book, day int) {
	t.Helper()
	debits, credits, _ := trial.Trial(b, day)
	if debits != credits {
		t.Fatalf("Trial(%v, %d) = %d, %d", b, day, debits, credits)
	}
	assets, liabilities, equity, _ := trial.Sheet(b, day)
	profit, _ := trial.Profit(b, 0, day)
	if assets != liabilities+equity+profit {
		t.Fatalf("Sheet(%v, %d) = %d, %d, %d with profit %d", b, day, assets, liabilities, equity, profit)
	}
}

// spacious is a book whose slices all have spare capacity that is in use.
func spacious() api.Book {
	b := year()
	for i := range b.Entries {
		l := b.Entries[i].Lines
		b.Entries[i].Lines = append(l, api.Line{Code: "spare", Amount: 7})[:len(l)]
	}
	b.Entries = b.Entries[:8]
	b.Accts = append(b.Accts, api.Acct{Code: "spare", Kind: 77})[:10]
	return b
}

// whole is a book with the spare capacity of all its slices.
func whole(b api.Book) api.Book {
	b.Accts = b.Accts[:cap(b.Accts)]
	b.Entries = slices.Clone(b.Entries[:cap(b.Entries)])
	for i, e := range b.Entries {
		b.Entries[i].Lines = e.Lines[:cap(e.Lines)]
	}
	return b
}

// P2: the book stays as it is, with its spare capacity, and a second call
// gives the same.
func TestMemory(t *testing.T) {
	b := spacious()
	for range 2 {
		testTrial(t, b, 12, 220, 220, api.OK)
		testProfit(t, b, 0, 12, 28, api.OK)
		testSheet(t, b, 12, 28, -70, 70, api.OK)
	}
	if !reflect.DeepEqual(whole(b), whole(spacious())) {
		t.Errorf("the book is now %v", whole(b))
	}
}
