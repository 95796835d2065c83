package closing_test

import (
	"fmt"
	"math"
	"math/rand"
	"reflect"
	"slices"
	"strconv"
	"strings"
	"testing"

	"tallage/api"
	"tallage/book"
	"tallage/closing"
	"tallage/trial"
)

// far are numbers that are no days.
var far = []int{math.MinInt, -2, -1, api.MaxDay + 1, math.MaxInt}

// badKeys are strings that are no keys.
var badKeys = []string{"", "A", "a b", "a_", "k\x00", "\xff", "é", "abcdefghijklm"}

// chart has two accounts of each kind, whose order is not that of the kinds.
func chart() []api.Acct {
	return []api.Acct{
		{Code: "1", Kind: api.Expense},
		{Code: "10", Kind: api.Asset},
		{Code: "11", Kind: api.Equity},
		{Code: "2", Kind: api.Liability},
		{Code: "20", Kind: api.Income},
		{Code: "3", Kind: api.Asset},
		{Code: "4", Kind: api.Equity},
		{Code: "5", Kind: api.Expense},
		{Code: "6", Kind: api.Income},
		{Code: "7", Kind: api.Liability},
	}
}

// of is an open book with these entries.
func of(entries ...api.Entry) api.Book {
	return api.Book{Accts: chart(), Entries: entries, Shut: -1}
}

// shut is the book as if it were closed up to a day.
func shut(b api.Book, day int) api.Book {
	b.Shut = day
	return b
}

// move moves an amount from one account to another.
func move(key string, day, amount int, to, from string) api.Entry {
	return api.Entry{Key: key, Day: day, Lines: []api.Line{{Code: to, Amount: amount}, {Code: from, Amount: -amount}}}
}

// year is a book in which every account has lines, on the days 5 to 12.
func year() api.Book {
	return of(
		move("a", 5, 100, "10", "11"), // capital
		move("b", 6, 70, "3", "2"),    // a loan
		move("c", 7, 40, "10", "20"),  // sales, two on a day
		move("d", 7, 9, "3", "6"),
		move("e", 8, 15, "1", "10"), // rent and interest
		api.Entry{Key: "f", Day: 8, Lines: []api.Line{{Code: "5", Amount: 6}, {Code: "2", Amount: 20}, {Code: "10", Amount: -26}}},
		move("g", 9, 120, "7", "10"), // the second liability is overpaid
		move("h", 10, 30, "4", "3"),  // an owner draws
		move("i", 12, 5, "6", "3"),   // a sale is taken back in part
	)
}

// sold has n sales of 1 to account 10 from account 20, on the days 100, 101
// and so on.
func sold(n int) api.Book {
	b := of()
	for i := range n {
		b.Entries = append(b.Entries, move("n"+strconv.Itoa(i), 100+i, 1, "10", "20"))
	}
	return b
}

// earned has an asset account 10, an equity account 99, and for each amount
// an account 20, 21 and so on that earned it: by turns an expense account and
// an income account.
func earned(amounts ...int) api.Book {
	b := api.Book{Accts: []api.Acct{{Code: "10", Kind: api.Asset}}, Shut: -1}
	for i, n := range amounts {
		code := strconv.Itoa(20 + i)
		b.Accts = append(b.Accts, api.Acct{Code: code, Kind: api.Expense - i%2})
		// An amount that is too great for one line takes several entries.
		for j := 0; n != 0; j++ {
			part := min(max(n, -api.MaxMoney), api.MaxMoney)
			b.Entries = append(b.Entries, move(fmt.Sprintf("n%d-%02d", 10+i, j), 5, part, "10", code))
			n -= part
		}
	}
	b.Accts = append(b.Accts, api.Acct{Code: "99", Kind: api.Equity})
	return b
}

// repeated is n times an amount.
func repeated(n, amount int) []int { return slices.Repeat([]int{amount}, n) }

// with is the book with an entry at an index.
func with(b api.Book, at int, e api.Entry) api.Book {
	b.Entries = slices.Insert(slices.Clone(b.Entries), at, e)
	return b
}

func equalEntries(d, e api.Entry) bool {
	return d.Key == e.Key && d.Day == e.Day && slices.Equal(d.Lines, e.Lines)
}

func equal(a, b api.Book) bool {
	return a.Shut == b.Shut && slices.Equal(a.Accts, b.Accts) && slices.EqualFunc(a.Entries, b.Entries, equalEntries)
}

// short is the beginning of a book, as text.
func short(b api.Book) string { return fmt.Sprintf("%.300s", fmt.Sprint(b)) }

func isDay(n int) bool { return n >= 0 && n <= 292193 }

func testClose(t *testing.T, b api.Book, key string, day int, code string, after api.Book, want api.Errno) {
	t.Helper()
	if got, err := closing.Close(b, key, day, code); !equal(got, after) || err != want {
		t.Errorf("Close(%s, %q, %d, %q) = %v, %d; want %v, %d", short(b), key, day, code, got, err, after, want)
	}
}

func testUndo(t *testing.T, b api.Book, key, by string, day int, after api.Book, want api.Errno) {
	t.Helper()
	if got, err := closing.Undo(b, key, by, day); !equal(got, after) || err != want {
		t.Errorf("Undo(%s, %q, %q, %d) = %v, %d; want %v, %d", short(b), key, by, day, got, err, after, want)
	}
}

func noClose(t *testing.T, b api.Book, key string, day int, code string, want api.Errno) {
	t.Helper()
	testClose(t, b, key, day, code, api.Book{}, want)
}

func noUndo(t *testing.T, b api.Book, key, by string, day int, want api.Errno) {
	t.Helper()
	testUndo(t, b, key, by, day, api.Book{}, want)
}

// P42: the days around each entry, both equity accounts, and keys on either
// side of the other entries of the day.
func TestClose(t *testing.T) {
	for _, x := range []struct {
		key   string
		day   int
		at    int
		lines []api.Line
	}{
		{"z", 7, 4, []api.Line{{Code: "20", Amount: 40}, {Code: "6", Amount: 9}, {Code: "", Amount: -49}}},
		{"cc", 7, 3, []api.Line{{Code: "20", Amount: 40}, {Code: "6", Amount: 9}, {Code: "", Amount: -49}}},
		{"-", 7, 2, []api.Line{{Code: "20", Amount: 40}, {Code: "6", Amount: 9}, {Code: "", Amount: -49}}},
		{"z", 8, 6, []api.Line{{Code: "1", Amount: -15}, {Code: "20", Amount: 40}, {Code: "5", Amount: -6}, {Code: "6", Amount: 9}, {Code: "", Amount: -28}}},
		{"abcdefghijkl", 9, 6, []api.Line{{Code: "1", Amount: -15}, {Code: "20", Amount: 40}, {Code: "5", Amount: -6}, {Code: "6", Amount: 9}, {Code: "", Amount: -28}}},
		{"0", 11, 8, []api.Line{{Code: "1", Amount: -15}, {Code: "20", Amount: 40}, {Code: "5", Amount: -6}, {Code: "6", Amount: 9}, {Code: "", Amount: -28}}},
		{"hh", 12, 8, []api.Line{{Code: "1", Amount: -15}, {Code: "20", Amount: 40}, {Code: "5", Amount: -6}, {Code: "6", Amount: 4}, {Code: "", Amount: -23}}},
		{"z", 13, 9, []api.Line{{Code: "1", Amount: -15}, {Code: "20", Amount: 40}, {Code: "5", Amount: -6}, {Code: "6", Amount: 4}, {Code: "", Amount: -23}}},
		{"z", api.MaxDay, 9, []api.Line{{Code: "1", Amount: -15}, {Code: "20", Amount: 40}, {Code: "5", Amount: -6}, {Code: "6", Amount: 4}, {Code: "", Amount: -23}}},
	} {
		for _, code := range []string{"11", "4"} {
			x.lines[len(x.lines)-1].Code = code
			after := shut(with(year(), x.at, api.Entry{Key: x.key, Day: x.day, Lines: x.lines}), x.day)
			testClose(t, year(), x.key, x.day, code, after, api.OK)
			testNothingLeft(t, after, x.day)
		}
	}
	for _, day := range []int{0, 4, 5, 6} {
		noClose(t, year(), "z", day, "11", api.ErrNone)
	}
}

// testNothingLeft: no income or expense account has a balance.
func testNothingLeft(t *testing.T, b api.Book, day int) {
	t.Helper()
	for _, a := range b.Accts {
		n, err := book.Balance(b, a.Code, day)
		if (a.Kind == api.Income || a.Kind == api.Expense) && n != 0 || err != api.OK {
			t.Errorf("the balance of %s on day %d is %d, %d in %s", a.Code, day, n, err, short(b))
		}
	}
	if n, err := trial.Profit(b, 0, day); n != 0 || err != api.OK {
		t.Errorf("the profit up to day %d is %d, %d in %s", day, n, err, short(b))
	}
}

// P42: losses, accounts on their unusual side, balances of 0, and sums of 0.
func TestCloseLines(t *testing.T) {
	for _, x := range []struct {
		b     api.Book
		lines []api.Line
	}{
		{of(move("a", 5, 7, "10", "20")), []api.Line{{Code: "20", Amount: 7}, {Code: "11", Amount: -7}}},
		{of(move("a", 5, 7, "20", "10")), []api.Line{{Code: "20", Amount: -7}, {Code: "11", Amount: 7}}},
		{of(move("a", 5, 7, "1", "10")), []api.Line{{Code: "1", Amount: -7}, {Code: "11", Amount: 7}}},
		{of(move("a", 5, 7, "10", "1")), []api.Line{{Code: "1", Amount: 7}, {Code: "11", Amount: -7}}},
		{of(move("a", 5, 7, "11", "6")), []api.Line{{Code: "6", Amount: 7}, {Code: "11", Amount: -7}}},
		{of(move("a", 5, 7, "20", "6")), []api.Line{{Code: "20", Amount: -7}, {Code: "6", Amount: 7}}},
		{of(move("a", 5, 7, "5", "20")), []api.Line{{Code: "20", Amount: 7}, {Code: "5", Amount: -7}}},
		{of(move("a", 5, 7, "1", "10"), move("b", 5, 7, "10", "6")), []api.Line{{Code: "1", Amount: -7}, {Code: "6", Amount: 7}}},
		{of(move("a", 4, 7, "10", "20"), move("b", 5, 7, "20", "10"), move("c", 5, 2, "5", "10")), []api.Line{{Code: "5", Amount: -2}, {Code: "11", Amount: 2}}},
		{of(move("a", 0, 3, "10", "20"), move("b", 3, 4, "2", "20"), move("c", 5, 5, "20", "4")), []api.Line{{Code: "20", Amount: 2}, {Code: "11", Amount: -2}}},
	} {
		testClose(t, x.b, "z", 5, "11", shut(with(x.b, len(x.b.Entries), api.Entry{Key: "z", Day: 5, Lines: x.lines}), 5), api.OK)
	}
	first := of(move("a", 0, 7, "10", "20"))
	testClose(t, first, "z", 0, "11", shut(with(first, 1, move("z", 0, 7, "20", "11")), 0), api.OK)
	last := of(move("a", api.MaxDay, 7, "10", "20"))
	testClose(t, last, "z", api.MaxDay, "11", shut(with(last, 1, move("z", api.MaxDay, 7, "20", "11")), api.MaxDay), api.OK)
	noClose(t, last, "z", api.MaxDay-1, "11", api.ErrNone)
}

// P42: there is nothing to close where all balances are 0, whatever the other
// accounts hold.
func TestNothingToClose(t *testing.T) {
	for _, b := range []api.Book{
		of(),
		{Accts: []api.Acct{{Code: "11", Kind: api.Equity}}, Shut: -1},
		of(move("a", 5, 7, "10", "2"), move("b", 5, 8, "3", "11")),
		of(move("a", 5, 7, "10", "20"), move("b", 5, 7, "20", "10")),
		of(move("a", 4, 7, "1", "20"), move("b", 5, 7, "20", "1")),
		of(move("a", 6, 7, "10", "20")),
	} {
		noClose(t, b, "z", 5, "11", api.ErrNone)
	}
}

// P42, P43: one period is closed after another.
func TestCloseAgain(t *testing.T) {
	once, _ := closing.Close(year(), "z", 9, "11")
	for _, day := range []int{9, 10, 11} {
		noClose(t, once, "y", day, "11", api.ErrNone)
		noClose(t, once, "z", day, "11", api.ErrNone)
	}
	testClose(t, once, "y", 12, "4", shut(with(once, 10, move("y", 12, -5, "6", "4")), 12), api.OK)
	testClose(t, once, "y", 20, "4", shut(with(once, 10, move("y", 20, -5, "6", "4")), 20), api.OK)
	noClose(t, once, "z", 12, "4", api.ErrThere)
	if _, err := book.Post(once, move("y", 9, 1, "10", "2")); err != api.ErrShut {
		t.Errorf("a posting in the closed period gives %d", err)
	}
	noUndo(t, once, "z", "y", 9, api.ErrShut)
	undone := api.Entry{Key: "y", Day: 10, Lines: []api.Line{{Code: "1", Amount: 15}, {Code: "20", Amount: -40}, {Code: "5", Amount: 6}, {Code: "6", Amount: -9}, {Code: "11", Amount: 28}}}
	testUndo(t, once, "z", "y", 10, with(once, 9, undone), api.OK)
}

// P42: a period that is closed already.
func TestCloseShut(t *testing.T) {
	for _, day := range []int{-1, 0, 7, 8} {
		testClose(t, shut(year(), day), "z", 9, "11", shut(with(year(), 7, api.Entry{Key: "z", Day: 9, Lines: []api.Line{{Code: "1", Amount: -15}, {Code: "20", Amount: 40}, {Code: "5", Amount: -6}, {Code: "6", Amount: 9}, {Code: "11", Amount: -28}}}), 9), api.OK)
	}
	for _, day := range []int{9, 10, api.MaxDay} {
		noClose(t, shut(year(), day), "z", 9, "11", api.ErrShut)
	}
}

// P42, P35: a book that contains the closing entry already, although it has
// more to close, is only closed.
func TestCloseContained(t *testing.T) {
	b := of(move("a", 5, 140, "10", "20"), move("z", 9, 70, "20", "11"), move("c", 12, 1, "10", "3"))
	for _, day := range []int{-1, 0, 8, 9} {
		testClose(t, shut(b, day), "z", 9, "11", shut(b, 9), api.OK)
	}
	// book.Post has no objection here, but book.Shut has.
	noClose(t, shut(b, 10), "z", 9, "11", api.ErrShut)
	noClose(t, shut(b, api.MaxDay), "z", 9, "11", api.ErrShut)
	noClose(t, b, "z", 9, "4", api.ErrThere)
	noClose(t, b, "z", 10, "11", api.ErrThere)
	noClose(t, shut(b, 10), "z", 9, "4", api.ErrThere)
	full := sold(60)
	full.Entries[59].Lines = []api.Line{{Code: "20", Amount: 59}, {Code: "11", Amount: -59}}
	full.Entries[0].Lines = []api.Line{{Code: "10", Amount: 60}, {Code: "20", Amount: -60}}
	testClose(t, full, "n59", 159, "11", shut(full, 159), api.OK)
}

// P42: the greatest number of lines, amounts and entries.
func TestCloseLimits(t *testing.T) {
	const most = api.MaxMoney
	for _, x := range []struct {
		amounts []int
		want    api.Errno
	}{
		{repeated(11, 1), api.OK},
		{repeated(12, 1), api.ErrLarge},
		{append(repeated(12, 1), 0), api.ErrLarge},
		{append(repeated(11, 0), repeated(11, 1)...), api.OK},
		{append(repeated(6, 1), repeated(6, -1)...), api.OK},
		{append(repeated(6, 1), repeated(7, -1)...), api.ErrLarge},
		{append(repeated(7, 1), repeated(7, -1)...), api.ErrLarge},
		{repeated(22, 1), api.ErrLarge},
		{[]int{most}, api.OK},
		{[]int{-most}, api.OK},
		{[]int{most + 1}, api.ErrArg},
		{[]int{-most - 1}, api.ErrArg},
		{[]int{60 * most}, api.ErrArg},
		{[]int{most, 1}, api.ErrArg},
		{[]int{-most, -1}, api.ErrArg},
		{[]int{most, -1}, api.OK},
		{[]int{most, -most}, api.OK},
		{[]int{most, most, -most}, api.OK},
		{[]int{-most, -most, most}, api.OK},
		{[]int{1, most + 1, -2}, api.ErrArg},
		{[]int{1, -most - 1, 2}, api.ErrArg},
		{[]int{most + 1, -most - 1}, api.ErrArg},
		{repeated(11, most), api.ErrArg},
		{repeated(12, most), api.ErrLarge},
	} {
		b := earned(x.amounts...)
		e := api.Entry{Key: "z", Day: 9}
		sum := 0
		for i, n := range x.amounts {
			if n != 0 {
				e.Lines = append(e.Lines, api.Line{Code: strconv.Itoa(20 + i), Amount: n})
			}
			sum += n
		}
		if sum != 0 {
			e.Lines = append(e.Lines, api.Line{Code: "99", Amount: -sum})
		}
		var after api.Book
		if x.want == api.OK {
			after = shut(with(b, len(b.Entries), e), 9)
		}
		testClose(t, b, "z", 9, "99", after, x.want)
	}
	testClose(t, sold(59), "z", 200, "11", shut(with(sold(59), 59, move("z", 200, 59, "20", "11")), 200), api.OK)
	noClose(t, sold(60), "z", 200, "11", api.ErrLarge)
	noClose(t, sold(60), "z", 100, "11", api.ErrLarge)
}

// P42: each error, and its place among the others.
func TestCloseErrors(t *testing.T) {
	for _, day := range far {
		for _, code := range []string{"11", "10", "99", ""} {
			noClose(t, year(), "z", day, code, api.ErrArg)
			noClose(t, shut(of(), 9), "", day, code, api.ErrArg)
		}
		noClose(t, api.Book{Shut: -1}, "z", day, "11", api.ErrArg)
	}
	for _, day := range []int{0, 5, 9, api.MaxDay} {
		for _, code := range []string{"", "0", "12", "99", "111", "x", " 11", "123456789", "\xff"} {
			noClose(t, year(), "z", day, code, api.ErrNone)
			noClose(t, shut(year(), 9), "", day, code, api.ErrNone)
		}
		noClose(t, api.Book{}, "", day, "11", api.ErrNone)
		for _, code := range []string{"1", "10", "2", "20", "3", "5", "6", "7"} {
			noClose(t, year(), "z", day, code, api.ErrForm)
			noClose(t, shut(of(), 9), "", day, code, api.ErrForm)
		}
	}
	for _, key := range append([]string{"z", "a"}, badKeys...) {
		noClose(t, year(), key, 6, "11", api.ErrNone)
		noClose(t, shut(year(), api.MaxDay), key, 6, "11", api.ErrNone)
	}
	for _, key := range badKeys {
		noClose(t, year(), key, 9, "11", api.ErrForm)
		noClose(t, shut(year(), 9), key, 9, "11", api.ErrForm)
		noClose(t, earned(repeated(13, 1)...), key, 9, "99", api.ErrForm)
		noClose(t, earned(2*api.MaxMoney), key, 9, "99", api.ErrForm)
		noClose(t, sold(60), key, 200, "11", api.ErrForm)
	}
	for _, key := range []string{"a", "f", "i"} {
		for _, day := range []int{7, 8, 9, api.MaxDay} {
			noClose(t, year(), key, day, "11", api.ErrThere)
			noClose(t, shut(year(), api.MaxDay), key, day, "11", api.ErrThere)
		}
	}
	noClose(t, sold(60), "n0", 200, "11", api.ErrThere)
	noClose(t, shut(sold(60), 199), "z", 199, "11", api.ErrShut)
	noClose(t, shut(earned(2*api.MaxMoney), 9), "n10-00", 9, "99", api.ErrArg)
	noClose(t, shut(earned(repeated(13, 1)...), 9), "n10-00", 9, "99", api.ErrLarge)
}

// P43: reversals before, on and after the day of the entry.
func TestUndo(t *testing.T) {
	turned := []api.Line{{Code: "5", Amount: -6}, {Code: "2", Amount: -20}, {Code: "10", Amount: 26}}
	for _, x := range []struct {
		by  string
		day int
		at  int
	}{
		{"z", 8, 6},
		{"ee", 8, 5},
		{"-", 8, 4},
		{"z", 0, 0},
		{"z", 5, 1},
		{"0", 5, 0},
		{"abcdefghijkl", 9, 6},
		{"h0", 10, 8},
		{"z", api.MaxDay, 9},
	} {
		testUndo(t, year(), "f", x.by, x.day, with(year(), x.at, api.Entry{Key: x.by, Day: x.day, Lines: turned}), api.OK)
	}
	testUndo(t, year(), "a", "z", 5, with(year(), 1, move("z", 5, -100, "10", "11")), api.OK)
	testUndo(t, year(), "i", "z", 12, with(year(), 9, move("z", 12, -5, "6", "3")), api.OK)
	undone, _ := closing.Undo(year(), "f", "z", 9)
	for _, x := range []struct {
		code  string
		day   int
		value int
	}{{"5", 8, 6}, {"5", 9, 0}, {"2", 8, -50}, {"2", 9, -70}, {"10", 8, 99}, {"10", 9, 5}} {
		if n, err := book.Balance(undone, x.code, x.day); n != x.value || err != api.OK {
			t.Errorf("the balance of %s on day %d is %d, %d; want %d", x.code, x.day, n, err, x.value)
		}
	}
}

// P43, P35: a reversal that the book contains already changes nothing, and a
// reversal may be reversed.
func TestUndoAgain(t *testing.T) {
	once, _ := closing.Undo(year(), "f", "z", 10)
	for _, day := range []int{-1, 9, 10, 11, api.MaxDay} {
		testUndo(t, shut(once, day), "f", "z", 10, shut(once, day), api.OK)
	}
	noUndo(t, once, "f", "z", 11, api.ErrThere)
	noUndo(t, once, "e", "z", 10, api.ErrThere)
	twice := with(once, 10, api.Entry{Key: "y", Day: 12, Lines: year().Entries[5].Lines})
	testUndo(t, once, "z", "y", 12, twice, api.OK)
	testUndo(t, twice, "z", "y", 12, twice, api.OK)
	testUndo(t, twice, "y", "z", 10, twice, api.OK)
	testUndo(t, twice, "z", "f", 8, twice, api.OK)
	noUndo(t, twice, "z", "f", 9, api.ErrThere)
}

// P43: a closed period.
func TestUndoShut(t *testing.T) {
	for _, day := range []int{-1, 0, 8, 9} {
		testUndo(t, shut(year(), day), "c", "z", 10, shut(with(year(), 8, move("z", 10, -40, "10", "20")), day), api.OK)
	}
	for _, day := range []int{10, 11, api.MaxDay} {
		noUndo(t, shut(year(), day), "c", "z", 10, api.ErrShut)
		noUndo(t, shut(year(), day), "c", "z", 0, api.ErrShut)
		noUndo(t, shut(year(), day), "i", "z", 10, api.ErrShut)
	}
}

// P43: the greatest number of lines, amounts and entries.
func TestUndoLimits(t *testing.T) {
	b := earned(repeated(11, 1)...)
	wide, turned := api.Entry{Key: "wide", Day: 6}, api.Entry{Key: "z", Day: 7}
	for i := range 12 {
		n := api.MaxMoney * (1 - i%2*2)
		code := b.Accts[12-i].Code
		wide.Lines = append(wide.Lines, api.Line{Code: code, Amount: n})
		turned.Lines = append(turned.Lines, api.Line{Code: code, Amount: -n})
	}
	b = with(b, 11, wide)
	testUndo(t, b, "wide", "z", 7, with(b, 12, turned), api.OK)
	testUndo(t, sold(59), "n3", "z", 200, with(sold(59), 59, move("z", 200, -1, "10", "20")), api.OK)
	noUndo(t, sold(60), "n3", "z", 200, api.ErrLarge)
	noUndo(t, sold(60), "n3", "z", 0, api.ErrLarge)
	full := with(sold(59), 59, move("z", 200, -1, "10", "20"))
	testUndo(t, full, "n3", "z", 200, full, api.OK)
}

// P43: each error, and its place among the others.
func TestUndoErrors(t *testing.T) {
	for _, key := range append([]string{"z", "aa", "abcdefghijkl"}, badKeys...) {
		for _, by := range append([]string{"y", "a", key}, badKeys...) {
			for _, day := range append([]int{0, 5, api.MaxDay}, far...) {
				noUndo(t, year(), key, by, day, api.ErrNone)
				noUndo(t, shut(of(), 9), key, by, day, api.ErrNone)
			}
		}
		noUndo(t, api.Book{}, key, key, 5, api.ErrNone)
	}
	for _, by := range badKeys {
		for _, day := range append([]int{0, 5, api.MaxDay}, far...) {
			noUndo(t, year(), "f", by, day, api.ErrForm)
			noUndo(t, shut(sold(60), 9), "n0", by, day, api.ErrForm)
		}
	}
	for _, by := range []string{"z", "a", "f"} {
		for _, day := range far {
			noUndo(t, year(), "f", by, day, api.ErrArg)
			noUndo(t, shut(sold(60), 9), "n0", by, day, api.ErrArg)
		}
	}
	for _, by := range []string{"a", "e", "f", "i"} {
		for _, day := range []int{0, 5, 8, 13, api.MaxDay} {
			noUndo(t, year(), "f", by, day, api.ErrThere)
			noUndo(t, shut(year(), api.MaxDay), "f", by, day, api.ErrThere)
		}
	}
	noUndo(t, sold(60), "n0", "n0", 100, api.ErrThere)
	noUndo(t, sold(60), "n0", "n1", 200, api.ErrThere)
	noUndo(t, shut(sold(60), 200), "n0", "z", 200, api.ErrShut)
}

// P42, P43: the error of book.Check comes first.
func TestCheckedFirst(t *testing.T) {
	full := sold(60)
	full.Entries = append(full.Entries, move("z", 200, 1, "10", "20"))
	for _, x := range []struct {
		b    api.Book
		want api.Errno
	}{
		{api.Book{Accts: make([]api.Acct, 25), Shut: -1}, api.ErrLarge},
		{api.Book{Accts: []api.Acct{{Code: "x"}}, Shut: -1}, api.ErrForm},
		{api.Book{Accts: []api.Acct{{Code: "1", Kind: 5}}, Shut: -1}, api.ErrArg},
		{api.Book{Accts: []api.Acct{{Code: "1", Kind: math.MinInt}}, Shut: -1}, api.ErrArg},
		{api.Book{Entries: year().Entries, Shut: -1}, api.ErrNone},
		{shut(year(), -2), api.ErrArg},
		{shut(year(), api.MaxDay+1), api.ErrArg},
		{full, api.ErrLarge},
		{of(move("A", 5, 1, "10", "20")), api.ErrForm},
		{of(move("a", 5, 0, "10", "20")), api.ErrArg},
		{of(move("a", 5, math.MinInt, "10", "20")), api.ErrArg},
		{of(move("a", -1, 1, "10", "20")), api.ErrArg},
		{of(move("a", 5, 1, "10", "10")), api.ErrThere},
		{of(move("a", 5, 1, "10", "99")), api.ErrNone},
		{of(move("a", 5, 1, "10", "20"), move("a", 6, 1, "10", "20")), api.ErrThere},
		{of(move("b", 5, 1, "10", "20"), move("a", 5, 1, "10", "20")), api.ErrForm},
		{of(api.Entry{Key: "a", Day: 5, Lines: []api.Line{{Code: "10", Amount: 7}, {Code: "20", Amount: -6}}}), api.ErrSum},
		{of(api.Entry{Key: "a", Day: 5}), api.ErrSum},
	} {
		for _, day := range append([]int{0, 9, api.MaxDay}, far...) {
			for _, key := range []string{"a", "z", "", "A"} {
				for _, code := range []string{"11", "10", "99", ""} {
					noClose(t, x.b, key, day, code, x.want)
					noUndo(t, x.b, key, code, day, x.want)
				}
			}
		}
	}
}

// readClose is P42, with the balances read from the lines.
func readClose(b api.Book, key string, day int, code string) (api.Book, api.Errno) {
	if err := book.Check(b); err != api.OK {
		return api.Book{}, err
	}
	if !isDay(day) {
		return api.Book{}, api.ErrArg
	}
	kinds, held := map[string]int{}, map[string]int{}
	for _, a := range b.Accts {
		kinds[a.Code] = a.Kind
	}
	if kind, has := kinds[code]; !has {
		return api.Book{}, api.ErrNone
	} else if kind != 2 {
		return api.Book{}, api.ErrForm
	}
	for _, e := range b.Entries {
		for _, x := range e.Lines {
			if e.Day <= day && kinds[x.Code] >= 3 {
				held[x.Code] += x.Amount
			}
		}
	}
	e, rest := api.Entry{Key: key, Day: day}, 0
	for c, n := range held {
		if n != 0 {
			e.Lines = append(e.Lines, api.Line{Code: c, Amount: -n})
		}
		rest += n
	}
	if len(e.Lines) == 0 {
		return api.Book{}, api.ErrNone
	}
	slices.SortFunc(e.Lines, func(x, y api.Line) int { return strings.Compare(x.Code, y.Code) })
	if rest != 0 {
		e.Lines = append(e.Lines, api.Line{Code: code, Amount: rest})
	}
	posted, err := book.Post(b, e)
	if err != api.OK {
		return api.Book{}, err
	}
	return book.Shut(posted, day)
}

// readUndo is P43, with the entry found and reversed by hand.
func readUndo(b api.Book, key, by string, day int) (api.Book, api.Errno) {
	if err := book.Check(b); err != api.OK {
		return api.Book{}, err
	}
	x := api.Entry{Key: by, Day: day}
	for _, e := range b.Entries {
		if e.Key != key {
			continue
		}
		for _, l := range e.Lines {
			x.Lines = append(x.Lines, api.Line{Code: l.Code, Amount: 0 - l.Amount})
		}
	}
	if len(x.Lines) == 0 {
		return api.Book{}, api.ErrNone
	}
	// book.Post has the errors of entry.Turned too, in the same order.
	return book.Post(b, x)
}

// randomEntry moves amounts between two to ten accounts.
func randomEntry(r *rand.Rand, key string, accts []api.Acct) api.Entry {
	e := api.Entry{Key: key, Day: r.Intn(12)}
	rest := 0
	order := r.Perm(len(accts))[:2+r.Intn(len(accts)-1)]
	for _, i := range order[1:] {
		n := 1 + r.Intn(3)
		if r.Intn(2) == 0 {
			n = -n
		}
		rest -= n
		e.Lines = append(e.Lines, api.Line{Code: accts[i].Code, Amount: n})
	}
	// A line of 0 is not valid. There are two other lines at least if the rest
	// is 0.
	if rest != 0 {
		e.Lines = append(e.Lines, api.Line{Code: accts[order[0]].Code, Amount: rest})
	}
	return e
}

// randomBook has accounts of random kinds. A few books are not valid, and a
// few are as long as can be.
func randomBook(r *rand.Rand) api.Book {
	b := of()
	b.Shut = max(r.Intn(20)-10, -1)
	for i := range b.Accts {
		b.Accts[i].Kind = r.Intn(5)
	}
	n := r.Intn(9)
	if r.Intn(15) == 0 {
		n = 58 + r.Intn(3)
	}
	for i := range n {
		b.Entries = append(b.Entries, randomEntry(r, "k"+strconv.Itoa(10+i), b.Accts))
	}
	slices.SortStableFunc(b.Entries, func(d, e api.Entry) int { return d.Day - e.Day })
	switch r.Intn(30) {
	case 0:
		b.Shut = -2
	case 1:
		b.Accts = slices.Delete(b.Accts, 4, 5)
	case 2:
		slices.Reverse(b.Entries)
	}
	return b
}

// randomKey is most often in use if old is true.
func randomKey(r *rand.Rand, old bool) string {
	switch r.Intn(12) {
	case 0:
		return badKeys[r.Intn(len(badKeys))]
	case 1:
		old = !old
	}
	if old {
		return "k" + strconv.Itoa(10+r.Intn(9))
	}
	return []string{"a", "k", "k100", "z"}[r.Intn(4)]
}

// randomEquity is most often the code of an equity account, if there is one.
func randomEquity(r *rand.Rand, b api.Book) string {
	for _, i := range r.Perm(len(b.Accts)) {
		if b.Accts[i].Kind == api.Equity && r.Intn(10) > 0 {
			return b.Accts[i].Code
		}
	}
	return []string{"1", "11", "4", "99"}[r.Intn(4)]
}

// P42, P43: books at random against direct readings. Each change is made
// again, in the book that it gave.
func TestDefinition(t *testing.T) {
	r := rand.New(rand.NewSource(42))
	closed, undone := map[api.Errno]int{}, map[api.Errno]int{}
	for range 12000 {
		b := randomBook(r)
		key, old, by, day, code := randomKey(r, false), randomKey(r, true), randomKey(r, false), r.Intn(15)-1, randomEquity(r, b)
		after, err := readClose(b, key, day, code)
		testClose(t, b, key, day, code, after, err)
		closed[err]++
		if err == api.OK {
			testNothingLeft(t, after, day)
			noClose(t, after, key, day, code, api.ErrNone)
		}
		after, err = readUndo(b, old, by, day)
		testUndo(t, b, old, by, day, after, err)
		undone[err]++
		if err == api.OK {
			testUndo(t, after, old, by, day, after, api.OK)
		}
		if t.Failed() {
			return
		}
	}
	for _, err := range []api.Errno{api.OK, api.ErrArg, api.ErrLarge, api.ErrForm, api.ErrNone, api.ErrThere, api.ErrShut} {
		if closed[err] < 100 || undone[err] < 100 {
			t.Errorf("only %d closings and %d reversals with error %d", closed[err], undone[err], err)
		}
	}
}

// spacious is a book whose slices all have spare capacity that is in use.
func spacious() api.Book {
	b := year()
	for i := range b.Entries {
		l := b.Entries[i].Lines
		b.Entries[i].Lines = append(l, api.Line{Code: "spare", Amount: 7}, api.Line{Code: "too", Amount: 8})[:len(l)]
	}
	b.Entries = b.Entries[:8]
	b.Accts = append(b.Accts, api.Acct{Code: "spare", Kind: 77}, api.Acct{Code: "too", Kind: 78})[:10]
	return b
}

// whole is a book with the spare capacity of all its slices.
func whole(b api.Book) api.Book {
	b.Accts = b.Accts[:cap(b.Accts)]
	b.Entries = slices.Clone(b.Entries[:cap(b.Entries)])
	for i, e := range b.Entries {
		b.Entries[i].Lines = e.Lines[:cap(e.Lines)]
	}
	return b
}

// overwrite changes all memory of a book.
func overwrite(b api.Book) {
	accts, entries := b.Accts[:cap(b.Accts)], b.Entries[:cap(b.Entries)]
	for i := range accts {
		accts[i] = api.Acct{Code: "changed", Kind: -1}
	}
	for i, e := range entries {
		lines := e.Lines[:cap(e.Lines)]
		for j := range lines {
			lines[j] = api.Line{Code: "changed", Amount: -1}
		}
		entries[i] = api.Entry{Key: "changed", Day: -1}
	}
}

// changes are calls that change a book, or leave it as it is.
func changes(b api.Book) map[string]func() (api.Book, api.Errno) {
	held := shut(of(move("a", 5, 140, "10", "20"), move("z", 9, 70, "20", "11")), 9)
	return map[string]func() (api.Book, api.Errno){
		"Close":           func() (api.Book, api.Errno) { return closing.Close(b, "z", 9, "11") },
		"Close contained": func() (api.Book, api.Errno) { return closing.Close(held, "z", 9, "11") },
		"Undo":            func() (api.Book, api.Errno) { return closing.Undo(b, "f", "z", 9) },
		"Undo a reversal": func() (api.Book, api.Errno) {
			undone, _ := closing.Undo(b, "f", "z", 9)
			return closing.Undo(undone, "z", "f", 8)
		},
	}
}

// P2: the book stays as it is, with its spare capacity, and shares no memory
// with a result.
func TestMemory(t *testing.T) {
	b := spacious()
	for name, call := range changes(b) {
		first, err := call()
		if err != api.OK {
			t.Fatalf("%s = %d", name, err)
		}
		second, _ := call()
		overwrite(second)
		if !reflect.DeepEqual(whole(b), whole(spacious())) {
			t.Fatalf("after %s the book is %v", name, whole(b))
		}
		if third, _ := call(); !equal(first, third) || book.Check(first) != api.OK {
			t.Errorf("%s gives %v, then %v", name, first, third)
		}
	}
}

// P2: no two entries of a result share memory.
func TestOwnMemory(t *testing.T) {
	lines := []api.Line{{Code: "10", Amount: 7}, {Code: "20", Amount: -7}}
	b := of(api.Entry{Key: "a", Day: 1, Lines: lines}, api.Entry{Key: "b", Day: 2, Lines: lines})
	for name, call := range map[string]func() (api.Book, api.Errno){
		"Close": func() (api.Book, api.Errno) { return closing.Close(b, "z", 9, "11") },
		"Undo":  func() (api.Book, api.Errno) { return closing.Undo(b, "a", "z", 9) },
	} {
		got, err := call()
		if err != api.OK || len(got.Entries) != 3 {
			t.Fatalf("%s gives %v, %d", name, got, err)
		}
		last := got.Entries[2].Lines[0].Amount
		got.Entries[0].Lines[0].Amount = 1
		if got.Entries[1].Lines[0].Amount != 7 || got.Entries[2].Lines[0].Amount != last || lines[0].Amount != 7 {
			t.Errorf("%s gives entries that share lines: %v", name, got)
		}
	}
}
