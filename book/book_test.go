package book_test

import (
	"math"
	"math/rand"
	"reflect"
	"slices"
	"strconv"
	"strings"
	"testing"

	"tallage/acct"
	"tallage/api"
	"tallage/book"
	"tallage/entry"
)

// far are numbers that are no days.
var far = []int{math.MinInt, -2, -1, api.MaxDay + 1, math.MaxInt}

// chart has five accounts, one of each kind.
func chart() []api.Acct {
	return []api.Acct{{Code: "1", Kind: api.Asset}, {Code: "10", Kind: api.Liability}, {Code: "2", Kind: api.Equity}, {Code: "3", Kind: api.Income}, {Code: "4", Kind: api.Expense}}
}

// of is an open book with these entries.
func of(entries ...api.Entry) api.Book {
	return api.Book{Accts: chart(), Entries: entries, Shut: -1}
}

// shut is a book that is closed up to a day.
func shut(day int, entries ...api.Entry) api.Book {
	b := of(entries...)
	b.Shut = day
	return b
}

// move moves an amount from account 2 to account 1.
func move(key string, day, amount int) api.Entry {
	return api.Entry{Key: key, Day: day, Lines: []api.Line{{Code: "1", Amount: amount}, {Code: "2", Amount: -amount}}}
}

// numbered has n entries, on the days 100, 101 and so on.
func numbered(n int) []api.Entry {
	var l []api.Entry
	for i := range n {
		l = append(l, move("n"+strconv.Itoa(i), 100+i, 1+i))
	}
	return l
}

func equalEntries(d, e api.Entry) bool {
	return d.Key == e.Key && d.Day == e.Day && slices.Equal(d.Lines, e.Lines)
}

func equal(a, b api.Book) bool {
	return a.Shut == b.Shut && slices.Equal(a.Accts, b.Accts) && slices.EqualFunc(a.Entries, b.Entries, equalEntries)
}

func hasCode(b api.Book, code string) bool {
	return slices.ContainsFunc(b.Accts, func(a api.Acct) bool { return a.Code == code })
}

func isDay(n int) bool { return n >= 0 && n <= 292193 }

// order is the sort order of entries: by day, then by key.
func order(d, e api.Entry) int {
	if d.Day < e.Day {
		return -1
	}
	if d.Day > e.Day {
		return 1
	}
	return strings.Compare(d.Key, e.Key)
}

// firstError is P34, read entry by entry.
func firstError(b api.Book) api.Errno {
	switch err := acct.Check(b.Accts); {
	case err != api.OK:
		return err
	case b.Shut != -1 && !isDay(b.Shut):
		return api.ErrArg
	case len(b.Entries) > 60:
		return api.ErrLarge
	}
	for i, e := range b.Entries {
		if err := entry.Check(e); err != api.OK {
			return err
		}
		for _, x := range e.Lines {
			if !hasCode(b, x.Code) {
				return api.ErrNone
			}
		}
		for _, d := range b.Entries[:i] {
			if d.Key == e.Key {
				return api.ErrThere
			}
		}
		if i > 0 && order(b.Entries[i-1], e) != -1 {
			return api.ErrForm
		}
	}
	return api.OK
}

// postError is P35: the error, and whether the book contains the entry.
func postError(b api.Book, x api.Entry) (api.Errno, bool) {
	if err := firstError(b); err != api.OK {
		return err, false
	}
	if err := entry.Check(x); err != api.OK {
		return err, false
	}
	for _, e := range b.Entries {
		if equalEntries(e, x) {
			return api.OK, true
		}
	}
	for _, e := range b.Entries {
		if e.Key == x.Key {
			return api.ErrThere, false
		}
	}
	for _, l := range x.Lines {
		if !hasCode(b, l.Code) {
			return api.ErrNone, false
		}
	}
	if x.Day <= b.Shut {
		return api.ErrShut, false
	}
	if len(b.Entries) == 60 {
		return api.ErrLarge, false
	}
	return api.OK, false
}

// P34: valid books, at the limits too.
func TestCheck(t *testing.T) {
	wide := api.Entry{Key: "wide", Day: 1}
	full := api.Book{Shut: -1}
	for i := range 24 {
		full.Accts = append(full.Accts, api.Acct{Code: strconv.Itoa(10 + i)})
	}
	for i := range 12 {
		wide.Lines = append(wide.Lines, api.Line{Code: strconv.Itoa(33 - i), Amount: api.MaxMoney * (1 - i%2*2)})
	}
	full.Entries = []api.Entry{wide}
	for _, b := range []api.Book{
		{Shut: -1},
		{},
		{Shut: api.MaxDay, Entries: []api.Entry{}, Accts: []api.Acct{}},
		of(),
		of(move("a", 0, 1)),
		of(move("a", api.MaxDay, -1)),
		of(move("a", 5, 1), move("b", 5, 1)),
		of(move("b", 5, 1), move("a", 6, 1)),
		of(move("z", 9, 1), move("a", 10, 1), move("b", 100, 1)),
		of(move("-", 5, 1), move("0", 5, 1), move("1", 5, 1), move("10", 5, 1), move("2", 5, 1), move("a", 5, 1), move("a-", 5, 1), move("aa", 5, 1), move("b", 5, 1)),
		shut(0, move("a", 0, 1)),
		shut(5, move("a", 4, 1), move("b", 5, 1), move("c", 6, 1)),
		shut(api.MaxDay, numbered(59)...),
		of(numbered(60)...),
		full,
	} {
		if err := book.Check(b); err != api.OK {
			t.Errorf("Check(%v) = %d", b, err)
		}
	}
}

// P34: each error, and which of several is returned.
func TestCheckErrors(t *testing.T) {
	other := func(key string, day int) api.Entry {
		return api.Entry{Key: key, Day: day, Lines: []api.Line{{Code: "1", Amount: 7}, {Code: "20", Amount: -7}}}
	}
	accts := func(l ...api.Acct) api.Book {
		return api.Book{Accts: l, Shut: -2, Entries: make([]api.Entry, 61)}
	}
	for _, x := range []struct {
		b    api.Book
		want api.Errno
	}{
		// The accounts come first, then Shut, then the number of entries.
		{accts(make([]api.Acct, 25)...), api.ErrLarge},
		{accts(api.Acct{Code: "x"}), api.ErrForm},
		{accts(api.Acct{Code: "2"}, api.Acct{Code: "10"}, api.Acct{Code: "1"}), api.ErrForm},
		{accts(api.Acct{Code: "1", Kind: 5}), api.ErrArg},
		{shut(-2, make([]api.Entry, 61)...), api.ErrArg},
		{shut(-2), api.ErrArg},
		{shut(api.MaxDay + 1), api.ErrArg},
		{shut(math.MinInt), api.ErrArg},
		{shut(math.MaxInt), api.ErrArg},
		{shut(-2, move("A", 5, 1)), api.ErrArg},
		{of(numbered(61)...), api.ErrLarge},
		{of(make([]api.Entry, 61)...), api.ErrLarge},
		{of(make([]api.Entry, 60)...), api.ErrForm},
		// Of one entry: its own error, its accounts, its key, its place.
		{of(move("A", 5, 1)), api.ErrForm},
		{of(move("a", -1, 1)), api.ErrArg},
		{of(move("a", api.MaxDay+1, 1)), api.ErrArg},
		{of(move("a", 5, 0)), api.ErrArg},
		{of(api.Entry{Key: "a", Lines: make([]api.Line, 13)}), api.ErrLarge},
		{of(api.Entry{Key: "a"}), api.ErrSum},
		{of(api.Entry{Key: "a", Lines: []api.Line{{Code: "20", Amount: 7}, {Code: "1", Amount: -6}}}), api.ErrSum},
		{of(other("a", 5)), api.ErrNone},
		{api.Book{Shut: -1, Entries: []api.Entry{move("a", 5, 1)}}, api.ErrNone},
		{of(move("a", 5, 1), other("a", 5)), api.ErrNone},
		{of(move("b", 5, 1), other("a", 4)), api.ErrNone},
		{of(move("a", 5, 1), move("a", 5, 1)), api.ErrThere},
		{of(move("a", 5, 1), move("a", 6, 1)), api.ErrThere},
		{of(move("a", 5, 1), move("a", 4, 1)), api.ErrThere},
		{of(move("a", 5, 1), move("b", 6, 1), move("a", 7, 1)), api.ErrThere},
		{of(move("a", 5, 1), move("b", 6, 1), move("a", 6, 1)), api.ErrThere},
		{of(move("b", 5, 1), move("a", 5, 1)), api.ErrForm},
		{of(move("2", 5, 1), move("10", 5, 1)), api.ErrForm},
		{of(move("a", 5, 1), move("b", 4, 1)), api.ErrForm},
		{of(move("a", 5, 1), move("b", 7, 1), move("c", 6, 1)), api.ErrForm},
		{of(move("a", 10, 1), move("b", 9, 1)), api.ErrForm},
		// Of several entries: the first one.
		{of(other("a", 5), move("A", 6, 1)), api.ErrNone},
		{of(move("a", 5, 1), move("a", 6, 1), move("b", -1, 1)), api.ErrThere},
		{of(move("b", 5, 1), move("a", 5, 1), other("c", 6)), api.ErrForm},
		{of(move("b", 5, 1), move("a", 5, 1), move("b", 6, 1)), api.ErrForm},
		{of(append(numbered(59), move("n0", 200, 1))...), api.ErrThere},
		{of(append(numbered(59), move("z", 0, 1))...), api.ErrForm},
		{of(append(numbered(59), api.Entry{Key: "z", Day: 200})...), api.ErrSum},
	} {
		if err := book.Check(x.b); err != x.want {
			t.Errorf("Check(%v) = %d; want %d", x.b, err, x.want)
		}
	}
}

// P34: all other functions return the error of Check before their own.
func TestCheckedFirst(t *testing.T) {
	for _, b := range []api.Book{
		{Accts: make([]api.Acct, 25)},
		{Accts: []api.Acct{{Code: "1", Kind: 5}}},
		shut(-2, move("a", 5, 1)),
		of(numbered(61)...),
		of(move("a", 5, 1), move("a", 5, 1)),
		of(move("b", 5, 1), move("a", 5, 1)),
		of(api.Entry{Key: "a"}),
		of(api.Entry{Key: "a", Lines: []api.Line{{Code: "1", Amount: 7}, {Code: "20", Amount: -7}}}),
	} {
		want := firstError(b)
		for _, x := range []api.Entry{{}, move("a", 5, 1), move("c", 7, 1)} {
			if got, err := book.Post(b, x); !equal(got, api.Book{}) || err != want {
				t.Errorf("Post(%v, %v) = %v, %d; want %d", b, x, got, err, want)
			}
		}
		for _, key := range []string{"", "a", "x"} {
			if got, err := book.Get(b, key); !equalEntries(got, api.Entry{}) || err != want {
				t.Errorf("Get(%v, %q) = %v, %d; want %d", b, key, got, err, want)
			}
		}
		for _, code := range []string{"", "1", "20"} {
			for _, day := range []int{-1, 5} {
				if got, err := book.Balance(b, code, day); got != 0 || err != want {
					t.Errorf("Balance(%v, %q, %d) = %d, %d; want %d", b, code, day, got, err, want)
				}
			}
		}
		for _, day := range []int{-1, 5} {
			if got, err := book.Shut(b, day); !equal(got, api.Book{}) || err != want {
				t.Errorf("Shut(%v, %d) = %v, %d; want %d", b, day, got, err, want)
			}
		}
	}
}

// P35: a new entry at every place.
func TestPost(t *testing.T) {
	a, b, c, d := move("k", 5, 1), move("m", 5, 2), move("b", 6, 3), move("a", 10, 4)
	old := of(a, b, c, d)
	for _, x := range []struct {
		e    api.Entry
		want []api.Entry
	}{
		{move("z", 4, 9), []api.Entry{move("z", 4, 9), a, b, c, d}},
		{move("c", 5, 9), []api.Entry{move("c", 5, 9), a, b, c, d}},
		{move("l", 5, 9), []api.Entry{a, move("l", 5, 9), b, c, d}},
		{move("z", 5, 9), []api.Entry{a, b, move("z", 5, 9), c, d}},
		{move("0", 6, 9), []api.Entry{a, b, move("0", 6, 9), c, d}},
		{move("bb", 6, 9), []api.Entry{a, b, c, move("bb", 6, 9), d}},
		{move("z", 9, 9), []api.Entry{a, b, c, move("z", 9, 9), d}},
		{move("aa", 10, 9), []api.Entry{a, b, c, d, move("aa", 10, 9)}},
		{move("0", api.MaxDay, 9), []api.Entry{a, b, c, d, move("0", api.MaxDay, 9)}},
		// The same day and lines under another key are another entry.
		{move("j", 5, 1), []api.Entry{move("j", 5, 1), a, b, c, d}},
	} {
		if got, err := book.Post(old, x.e); !equal(got, of(x.want...)) || err != api.OK {
			t.Errorf("Post(.., %v) = %v, %d; want %v", x.e, got, err, x.want)
		}
	}
	if got, err := book.Post(of(), a); !equal(got, of(a)) || err != api.OK {
		t.Errorf("Post to an empty book = %v, %d", got, err)
	}
	if got, err := book.Post(shut(4, move("o", 3, 1)), a); !equal(got, shut(4, move("o", 3, 1), a)) || err != api.OK {
		t.Errorf("Post on the day after Shut = %v, %d", got, err)
	}
	last := move("last", 300, 1)
	if got, err := book.Post(of(numbered(59)...), last); !equal(got, of(append(numbered(59), last)...)) || err != api.OK {
		t.Errorf("Post of entry 60 = %v, %d", got, err)
	}
}

// P35: an entry that is posted twice is in the book once, even in a closed
// period and in a full book.
func TestPostTwice(t *testing.T) {
	a := move("a", 5, 7)
	once, err := book.Post(of(), a)
	if err != api.OK {
		t.Fatalf("Post = %v, %d", once, err)
	}
	twice, err := book.Post(once, a)
	if !equal(once, twice) || err != api.OK || len(twice.Entries) != 1 {
		t.Errorf("posted once %v, twice %v, %d", once, twice, err)
	}
	for _, b := range []api.Book{
		of(a),
		of(move("0", 5, 7), a, move("z", 5, 7)),
		shut(4, a),
		shut(5, a),
		shut(api.MaxDay, a, move("b", 6, 1)),
		of(append([]api.Entry{a}, numbered(59)...)...),
		shut(200, append([]api.Entry{a}, numbered(59)...)...),
	} {
		if got, err := book.Post(b, a); !equal(got, b) || err != api.OK {
			t.Errorf("Post(%v, %v) = %v, %d", b, a, got, err)
		}
	}
}

// P35: each error, and which of several is returned.
func TestPostErrors(t *testing.T) {
	lines := func(key string, day int, l ...api.Line) api.Entry {
		return api.Entry{Key: key, Day: day, Lines: l}
	}
	one, two, none := api.Line{Code: "1", Amount: 7}, api.Line{Code: "2", Amount: -7}, api.Line{Code: "20", Amount: -7}
	a := lines("a", 5, one, two)
	full := of(append([]api.Entry{a}, numbered(59)...)...)
	both := shut(200, append([]api.Entry{a}, numbered(59)...)...)
	for _, x := range []struct {
		b    api.Book
		e    api.Entry
		want api.Errno
	}{
		{both, lines("", 5, one, two), api.ErrForm},
		{both, lines("A", 5, one, two), api.ErrForm},
		{both, lines("a", -1, one, two), api.ErrArg},
		{both, lines("a", api.MaxDay+1, one, two), api.ErrArg},
		{both, lines("a", 5, make([]api.Line, 13)...), api.ErrLarge},
		{both, lines("a", 5, one, api.Line{Code: "x", Amount: -7}), api.ErrForm},
		{both, lines("a", 5, one, api.Line{Code: "20"}), api.ErrArg},
		{both, lines("b", 5, one, api.Line{Code: "1", Amount: -7}), api.ErrThere},
		{both, lines("a", 5), api.ErrSum},
		{both, lines("a", 5, one, one), api.ErrThere},
		{both, lines("b", 5, api.Line{Code: "20", Amount: 7}), api.ErrSum},
		// A key that the book has with another day, other lines, or another order of them.
		{of(a), lines("a", 6, one, two), api.ErrThere},
		{of(a), lines("a", 4, one, two), api.ErrThere},
		{of(a), lines("a", 5, two, one), api.ErrThere},
		{of(a), move("a", 5, 8), api.ErrThere},
		{of(a), move("a", 5, -7), api.ErrThere},
		{of(a), lines("a", 5, one, api.Line{Code: "3", Amount: -7}), api.ErrThere},
		{of(a), lines("a", 5, one, api.Line{Code: "2", Amount: -8}, api.Line{Code: "3", Amount: 1}), api.ErrThere},
		{of(lines("a", 5, one, two, api.Line{Code: "3", Amount: 1}, api.Line{Code: "4", Amount: -1})), a, api.ErrThere},
		{of(a), lines("a", 5, one, none), api.ErrThere},
		{both, lines("a", 5, one, none), api.ErrThere},
		{both, lines("a", 6, one, two), api.ErrThere},
		{full, lines("n58", 300, one, two), api.ErrThere},
		{of(), lines("b", 5, one, none), api.ErrNone},
		{of(), lines("b", 5, none, one), api.ErrNone},
		{api.Book{Shut: -1}, a, api.ErrNone},
		{of(), lines("b", 5, one, two, api.Line{Code: "100", Amount: 1}, api.Line{Code: "4", Amount: -1}), api.ErrNone},
		{shut(5), lines("b", 5, one, none), api.ErrNone},
		{both, lines("b", 5, one, none), api.ErrNone},
		{full, lines("b", 5, one, none), api.ErrNone},
		{shut(5), lines("b", 5, one, two), api.ErrShut},
		{shut(5), lines("b", 4, one, two), api.ErrShut},
		{shut(0), lines("b", 0, one, two), api.ErrShut},
		{shut(api.MaxDay), lines("b", api.MaxDay, one, two), api.ErrShut},
		{both, lines("b", 200, one, two), api.ErrShut},
		{both, lines("b", 201, one, two), api.ErrLarge},
		{full, lines("b", 0, one, two), api.ErrLarge},
		{full, lines("b", 300, one, two), api.ErrLarge},
	} {
		if got, err := book.Post(x.b, x.e); !equal(got, api.Book{}) || err != x.want {
			t.Errorf("Post(%v, %v) = %v, %d; want %d", x.b, x.e, got, err, x.want)
		}
	}
}

// P35: the order of posting, and posting again, make no difference.
func TestPostOrder(t *testing.T) {
	r := rand.New(rand.NewSource(35))
	for range 300 {
		var l []api.Entry
		for i := range 1 + r.Intn(20) {
			l = append(l, move("k"+strconv.Itoa(i), r.Intn(6), 1+r.Intn(9)))
		}
		want := slices.Clone(l)
		slices.SortFunc(want, order)
		l = append(l, l...)
		r.Shuffle(len(l), func(i, j int) { l[i], l[j] = l[j], l[i] })
		b := of()
		for _, e := range l {
			next, err := book.Post(b, e)
			if err != api.OK {
				t.Fatalf("Post(%v, %v) = %d", b, e, err)
			}
			b = next
		}
		if !equal(b, of(want...)) || book.Check(b) != api.OK {
			t.Fatalf("posting %v gives %v; want %v", l, b, want)
		}
	}
}

// P36: every entry, and keys that the book does not have.
func TestGet(t *testing.T) {
	b := shut(150, numbered(60)...)
	for _, e := range b.Entries {
		if got, err := book.Get(b, e.Key); !equalEntries(got, e) || err != api.OK {
			t.Errorf("Get(%q) = %v, %d; want %v", e.Key, got, err, e)
		}
	}
	for _, key := range []string{"", "n", "n60", "N1", "n1 ", " n1", "n01", "1", "\x00", "\xff", strings.Repeat("n", 100000)} {
		if got, err := book.Get(b, key); !equalEntries(got, api.Entry{}) || err != api.ErrNone {
			t.Errorf("Get(%.12q) = %v, %d; want ErrNone", key, got, err)
		}
	}
	if got, err := book.Get(of(), "n1"); !equalEntries(got, api.Entry{}) || err != api.ErrNone {
		t.Errorf("Get of an empty book = %v, %d; want ErrNone", got, err)
	}
}

// P37: the days around each entry, several lines and entries of a day.
func TestBalance(t *testing.T) {
	b := shut(6, move("a", 5, 7), move("b", 5, -3),
		api.Entry{Key: "c", Day: 6, Lines: []api.Line{{Code: "10", Amount: 5}, {Code: "1", Amount: -9}, {Code: "2", Amount: 4}}},
		move("d", api.MaxDay, api.MaxMoney))
	for _, x := range []struct {
		code      string
		day, want int
	}{
		{"1", 0, 0},
		{"1", 4, 0},
		{"1", 5, 4},
		{"1", 6, -5},
		{"1", 7, -5},
		{"1", api.MaxDay - 1, -5},
		{"1", api.MaxDay, api.MaxMoney - 5},
		{"10", 5, 0},
		{"10", 6, 5},
		{"10", api.MaxDay, 5},
		{"2", 5, -4},
		{"2", 6, 0},
		{"2", api.MaxDay, -api.MaxMoney},
		{"3", api.MaxDay, 0},
	} {
		if got, err := book.Balance(b, x.code, x.day); got != x.want || err != api.OK {
			t.Errorf("Balance(%q, %d) = %d, %d; want %d", x.code, x.day, got, err, x.want)
		}
	}
	rich := of(numbered(60)...)
	for i := range rich.Entries {
		rich.Entries[i].Lines = move("", 0, api.MaxMoney).Lines
	}
	if got, err := book.Balance(rich, "1", api.MaxDay); got != 60*api.MaxMoney || err != api.OK {
		t.Errorf("Balance of 60 greatest amounts = %d, %d", got, err)
	}
	if got, err := book.Balance(rich, "2", 159); got != -60*api.MaxMoney || err != api.OK {
		t.Errorf("Balance of 60 least amounts = %d, %d", got, err)
	}
}

// P37: a missing account before an invalid day.
func TestBalanceErrors(t *testing.T) {
	b := of(move("a", 5, 7))
	for _, code := range []string{"", "0", "100", "20", "x", "1 ", "\xff", "123456789", strings.Repeat("1", 100000)} {
		for _, day := range append([]int{0, 5, api.MaxDay}, far...) {
			if got, err := book.Balance(b, code, day); got != 0 || err != api.ErrNone {
				t.Errorf("Balance(%.12q, %d) = %d, %d; want ErrNone", code, day, got, err)
			}
		}
	}
	for _, day := range far {
		if got, err := book.Balance(b, "1", day); got != 0 || err != api.ErrArg {
			t.Errorf("Balance(\"1\", %d) = %d, %d; want ErrArg", day, got, err)
		}
	}
	if got, err := book.Balance(api.Book{Shut: -1}, "1", 5); got != 0 || err != api.ErrNone {
		t.Errorf("Balance without accounts = %d, %d; want ErrNone", got, err)
	}
}

// P38: periods that get longer or stay, and the errors.
func TestShut(t *testing.T) {
	l := numbered(60)
	for _, x := range []struct{ from, to int }{
		{-1, 0}, {-1, 7}, {-1, api.MaxDay}, {0, 0}, {0, 1}, {7, 7}, {7, 8}, {7, 120}, {7, api.MaxDay}, {api.MaxDay, api.MaxDay},
	} {
		if got, err := book.Shut(shut(x.from, l...), x.to); !equal(got, shut(x.to, l...)) || err != api.OK {
			t.Errorf("Shut from %d to %d = %v, %d", x.from, x.to, got, err)
		}
	}
	if got, err := book.Shut(api.Book{Shut: -1}, 3); !equal(got, api.Book{Shut: 3}) || err != api.OK {
		t.Errorf("Shut of an empty book = %v, %d", got, err)
	}
	for _, x := range []struct{ from, to int }{
		{1, 0}, {7, 6}, {7, 0}, {api.MaxDay, 0}, {api.MaxDay, api.MaxDay - 1},
	} {
		if got, err := book.Shut(shut(x.from, l...), x.to); !equal(got, api.Book{}) || err != api.ErrShut {
			t.Errorf("Shut from %d to %d = %v, %d; want ErrShut", x.from, x.to, got, err)
		}
	}
	for _, from := range []int{-1, 0, 7, api.MaxDay} {
		for _, to := range far {
			if got, err := book.Shut(shut(from, l...), to); !equal(got, api.Book{}) || err != api.ErrArg {
				t.Errorf("Shut from %d to %d = %v, %d; want ErrArg", from, to, got, err)
			}
		}
	}
}

// randomEntry has few different keys, days and amounts, so that equal entries
// and equal keys come up.
func randomEntry(r *rand.Rand) api.Entry {
	codes := []string{"1", "10", "2", "3", "4"}
	r.Shuffle(len(codes), func(i, j int) { codes[i], codes[j] = codes[j], codes[i] })
	e := api.Entry{Key: string("-0abz"[r.Intn(5)]), Day: r.Intn(4)}
	if r.Intn(3) == 0 {
		e.Key += "1"
	}
	amount := 1 + r.Intn(2)
	e.Lines = []api.Line{{Code: codes[0], Amount: amount}, {Code: codes[1], Amount: -amount}}
	if r.Intn(3) == 0 {
		e.Lines = append(e.Lines, api.Line{Code: codes[2], Amount: 5}, api.Line{Code: codes[3], Amount: -5})
	}
	if r.Intn(30) == 0 {
		spoil(r, &e)
	}
	return e
}

func spoil(r *rand.Rand, e *api.Entry) {
	x := &e.Lines[r.Intn(len(e.Lines))]
	switch r.Intn(6) {
	case 0:
		e.Key = []string{"", "A", "1234567890abc", "\xff"}[r.Intn(4)]
	case 1:
		e.Day = far[r.Intn(len(far))]
	case 2:
		x.Code = []string{"", "x", "123456789"}[r.Intn(3)]
	case 3, 4:
		x.Code = "20"
	case 5:
		x.Amount++
	}
}

// randomBook is valid or has one or more errors, of every kind.
func randomBook(r *rand.Rand) api.Book {
	b := shut(r.Intn(4) - 1)
	for range r.Intn(6) {
		b.Entries = append(b.Entries, randomEntry(r))
	}
	if r.Intn(8) > 0 {
		slices.SortFunc(b.Entries, order)
	}
	if r.Intn(4) > 0 {
		seen := map[string]bool{}
		b.Entries = slices.DeleteFunc(b.Entries, func(e api.Entry) bool {
			was := seen[e.Key]
			seen[e.Key] = true
			return was
		})
	}
	switch r.Intn(30) {
	case 0:
		b.Shut = far[r.Intn(len(far))]
	case 1:
		b.Accts = slices.Delete(b.Accts, 1, 2)
	case 2:
		b.Accts[0], b.Accts[1] = b.Accts[1], b.Accts[0]
	case 3:
		b.Entries = numbered(58 + r.Intn(4))
	}
	return b
}

// P34 to P38: books at random against direct readings.
func TestDefinition(t *testing.T) {
	r := rand.New(rand.NewSource(34))
	checked, posted, contained := map[api.Errno]int{}, map[api.Errno]int{}, 0
	for range 60000 {
		b, x := randomBook(r), randomEntry(r)
		if len(b.Entries) > 0 && r.Intn(5) == 0 {
			x = b.Entries[r.Intn(len(b.Entries))]
		}
		bad := firstError(b)
		checked[bad]++
		if err := book.Check(b); err != bad {
			t.Fatalf("Check(%v) = %d; want %d", b, err, bad)
		}
		want, has := postError(b, x)
		if bad == api.OK {
			posted[want]++
		}
		if has {
			contained++
		}
		testPost(t, b, x, want, has)
		testGet(t, b, x.Key, bad)
		testBalance(t, b, []string{"1", "10", "2", "20", ""}[r.Intn(5)], r.Intn(7)-1, bad)
		testShut(t, b, r.Intn(7)-2, bad)
	}
	for _, err := range []api.Errno{api.OK, api.ErrForm, api.ErrArg, api.ErrLarge, api.ErrNone, api.ErrThere, api.ErrSum} {
		if checked[err] < 100 {
			t.Errorf("only %d books with error %d", checked[err], err)
		}
	}
	for _, err := range []api.Errno{api.OK, api.ErrForm, api.ErrArg, api.ErrThere, api.ErrNone, api.ErrShut, api.ErrLarge, api.ErrSum} {
		if posted[err] < 100 {
			t.Errorf("only %d entries posted with error %d", posted[err], err)
		}
	}
	if contained < 1000 {
		t.Errorf("only %d entries posted twice", contained)
	}
}

func testPost(t *testing.T, b api.Book, x api.Entry, want api.Errno, has bool) {
	t.Helper()
	var after api.Book
	if want == api.OK {
		after = b
	}
	if want == api.OK && !has {
		after.Entries = append(slices.Clone(b.Entries), x)
		slices.SortFunc(after.Entries, order)
	}
	if got, err := book.Post(b, x); !equal(got, after) || err != want {
		t.Fatalf("Post(%v, %v) = %v, %d; want %v, %d", b, x, got, err, after, want)
	}
}

func testGet(t *testing.T, b api.Book, key string, bad api.Errno) {
	t.Helper()
	var e api.Entry
	want := api.ErrNone
	for _, d := range b.Entries {
		if d.Key == key {
			e, want = d, api.OK
		}
	}
	if bad != api.OK {
		e, want = api.Entry{}, bad
	}
	if got, err := book.Get(b, key); !equalEntries(got, e) || err != want {
		t.Fatalf("Get(%v, %q) = %v, %d; want %v, %d", b, key, got, err, e, want)
	}
}

func testBalance(t *testing.T, b api.Book, code string, day int, bad api.Errno) {
	t.Helper()
	sum, want := 0, bad
	switch {
	case bad != api.OK:
	case !hasCode(b, code):
		want = api.ErrNone
	case !isDay(day):
		want = api.ErrArg
	default:
		for _, e := range b.Entries {
			for _, x := range e.Lines {
				if e.Day <= day && x.Code == code {
					sum += x.Amount
				}
			}
		}
	}
	if got, err := book.Balance(b, code, day); got != sum || err != want {
		t.Fatalf("Balance(%v, %q, %d) = %d, %d; want %d, %d", b, code, day, got, err, sum, want)
	}
	if bad != api.OK || !isDay(day) {
		return
	}
	total := 0
	for _, a := range b.Accts {
		n, _ := book.Balance(b, a.Code, day)
		total += n
	}
	if total != 0 {
		t.Fatalf("the balances of %v on day %d sum to %d", b, day, total)
	}
}

func testShut(t *testing.T, b api.Book, day int, bad api.Errno) {
	t.Helper()
	var after api.Book
	want := bad
	switch {
	case bad != api.OK:
	case !isDay(day):
		want = api.ErrArg
	case day < b.Shut:
		want = api.ErrShut
	default:
		after = b
		after.Shut = day
	}
	if got, err := book.Shut(b, day); !equal(got, after) || err != want {
		t.Fatalf("Shut(%v, %d) = %v, %d; want %v, %d", b, day, got, err, after, want)
	}
}

// spacious is a book whose slices all have spare capacity that is in use, and
// an entry with such lines.
func spacious() (api.Book, api.Entry) {
	b := of(move("a", 5, 1), move("c", 5, 2), move("e", 6, 3), move("spare", 77, 7))
	x := move("d", 5, 4)
	for i := range b.Entries {
		b.Entries[i].Lines = append(b.Entries[i].Lines, api.Line{Code: "spare", Amount: 7}, api.Line{Code: "too", Amount: 8})[:2]
	}
	x.Lines = append(x.Lines, api.Line{Code: "spare", Amount: 7}, api.Line{Code: "too", Amount: 8})[:2]
	b.Entries = b.Entries[:3]
	b.Accts = append(b.Accts, api.Acct{Code: "spare", Kind: 77}, api.Acct{Code: "too", Kind: 78})[:5]
	return b, x
}

// whole is a book with the spare capacity of all its slices.
func whole(b api.Book) api.Book {
	b.Accts = b.Accts[:cap(b.Accts)]
	b.Entries = slices.Clone(b.Entries[:cap(b.Entries)])
	for i, e := range b.Entries {
		b.Entries[i].Lines = e.Lines[:cap(e.Lines)]
	}
	return b
}

func overwriteLines(l []api.Line) {
	l = l[:cap(l)]
	for i := range l {
		l[i] = api.Line{Code: "changed", Amount: -1}
	}
}

// overwrite changes all memory of a book.
func overwrite(b api.Book) {
	accts, entries := b.Accts[:cap(b.Accts)], b.Entries[:cap(b.Entries)]
	for i := range accts {
		accts[i] = api.Acct{Code: "changed", Kind: -1}
	}
	for i := range entries {
		overwriteLines(entries[i].Lines)
		entries[i] = api.Entry{Key: "changed", Day: -1}
	}
}

// P2: the arguments stay as they are, with their spare capacity, and share no
// memory with a result.
func TestMemory(t *testing.T) {
	b, x := spacious()
	keep, keepX := spacious()
	unchanged := func(what string) {
		t.Helper()
		if !reflect.DeepEqual(whole(b), whole(keep)) || !reflect.DeepEqual(x.Lines[:cap(x.Lines)], keepX.Lines[:cap(keepX.Lines)]) {
			t.Fatalf("after %s the arguments are %v and %v", what, whole(b), x)
		}
	}
	for _, f := range []struct {
		name string
		call func() (api.Book, api.Errno)
	}{
		{"Post", func() (api.Book, api.Errno) { return book.Post(b, x) }},
		{"Post again", func() (api.Book, api.Errno) { return book.Post(b, b.Entries[1]) }},
		{"Post of lines in the book", func() (api.Book, api.Errno) {
			return book.Post(b, api.Entry{Key: "b", Day: 5, Lines: b.Entries[0].Lines})
		}},
		{"Shut", func() (api.Book, api.Errno) { return book.Shut(b, 9) }},
		{"Shut again", func() (api.Book, api.Errno) {
			c := b
			c.Shut = 9
			return book.Shut(c, 9)
		}},
	} {
		first, err := f.call()
		if err != api.OK {
			t.Fatalf("%s = %d", f.name, err)
		}
		unchanged(f.name)
		second, _ := f.call()
		overwrite(second)
		unchanged(f.name)
		if third, _ := f.call(); !equal(first, third) || book.Check(first) != api.OK {
			t.Errorf("%s gives %v, then %v", f.name, first, third)
		}
	}
	first, _ := book.Get(b, "c")
	second, _ := book.Get(b, "c")
	overwriteLines(second.Lines)
	unchanged("Get")
	if !equalEntries(first, keep.Entries[1]) {
		t.Errorf("Get gives %v, then %v", keep.Entries[1], first)
	}
	book.Check(b)
	book.Balance(b, "1", 5)
	unchanged("Check and Balance")
}

// P2: no two parts of a result share memory, even if those of the argument do.
func TestOwnMemory(t *testing.T) {
	lines := []api.Line{{Code: "1", Amount: 7}, {Code: "2", Amount: -7}}
	entries := []api.Entry{{Key: "a", Day: 1, Lines: lines}, {Key: "b", Day: 2, Lines: lines}}
	posted, _ := book.Post(of(entries...), api.Entry{Key: "c", Day: 3, Lines: lines})
	again, _ := book.Post(of(entries...), entries[0])
	closed, _ := book.Shut(of(entries...), 2)
	for _, b := range []api.Book{posted, again, closed} {
		if len(b.Entries) < 2 {
			t.Fatalf("the book is %v", b)
		}
		for i := range b.Entries {
			b.Entries[i].Lines[0].Amount += i
		}
		for i, e := range b.Entries {
			if e.Lines[0].Amount != 7+i {
				t.Errorf("entries share lines: %v", b)
			}
		}
	}
	if lines[0].Amount != 7 {
		t.Errorf("the lines are now %v", lines)
	}
}
