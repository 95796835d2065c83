package entry_test

import (
	"math"
	"math/rand"
	"regexp"
	"slices"
	"strconv"
	"strings"
	"testing"

	"tallage/api"
	"tallage/entry"
)

// P31 and P28 as patterns.
var (
	keys  = regexp.MustCompile(`\A[a-z0-9-]{1,12}\z`)
	codes = regexp.MustCompile(`\A[0-9]{1,8}\z`)
)

// firstError is P32, read in its order.
func firstError(e api.Entry) api.Errno {
	switch {
	case !keys.MatchString(e.Key):
		return api.ErrForm
	case e.Day < 0 || e.Day > 292193:
		return api.ErrArg
	case len(e.Lines) > 12:
		return api.ErrLarge
	}
	seen := map[string]bool{}
	sum := 0
	for _, x := range e.Lines {
		switch {
		case !codes.MatchString(x.Code):
			return api.ErrForm
		case x.Amount == 0 || x.Amount > 1000000000000 || x.Amount < -1000000000000:
			return api.ErrArg
		case seen[x.Code]:
			return api.ErrThere
		}
		seen[x.Code] = true
		sum += x.Amount
	}
	if len(e.Lines) < 2 || sum != 0 {
		return api.ErrSum
	}
	return api.OK
}

func of(lines ...api.Line) api.Entry {
	return api.Entry{Key: "a-1", Day: 5, Lines: lines}
}

// pairs has n lines with different codes: amounts and their negations, and for
// an odd n a last three that sum to 0.
func pairs(n, amount int) []api.Line {
	var l []api.Line
	for i := range n {
		l = append(l, api.Line{Code: strconv.Itoa(10 + i), Amount: amount})
		amount = -amount
	}
	if n%2 == 1 && n > 1 {
		l[n-3].Amount, l[n-2].Amount, l[n-1].Amount = 1, 2, -3
	}
	return l
}

func equal(a, b api.Entry) bool {
	return a.Key == b.Key && a.Day == b.Day && slices.Equal(a.Lines, b.Lines)
}

func empty(e api.Entry) bool {
	return e.Key == "" && e.Day == 0 && len(e.Lines) == 0
}

// randomEntry is valid or has one or more errors, of every kind.
func randomEntry(r *rand.Rand) api.Entry {
	e := api.Entry{Key: "k" + strconv.Itoa(r.Intn(1000)), Day: r.Intn(api.MaxDay + 1)}
	n := r.Intn(9)
	sum := 0
	for i := range n {
		x := api.Line{Code: strconv.Itoa(100 + i), Amount: 1 + r.Intn(api.MaxMoney)}
		if sum > 0 {
			x.Amount = -x.Amount
		}
		if i == n-1 && sum != 0 {
			x.Amount = -sum
		}
		sum += x.Amount
		e.Lines = append(e.Lines, x)
	}
	r.Shuffle(n, func(i, j int) { e.Lines[i], e.Lines[j] = e.Lines[j], e.Lines[i] })
	for range r.Intn(4) {
		spoil(r, &e)
	}
	return e
}

func spoil(r *rand.Rand, e *api.Entry) {
	far := []int{math.MinInt, -1, api.MaxDay + 1, math.MaxInt}
	amounts := []int{0, api.MaxMoney + 1, -api.MaxMoney - 1, math.MinInt, math.MaxInt}
	bad := []string{"", "A", "x y", "123456789", "1234567890abc", "1_2", "\xff"}
	what := r.Intn(20)
	switch what {
	case 0:
		e.Key = bad[r.Intn(len(bad))]
	case 1:
		e.Day = far[r.Intn(len(far))]
	case 2:
		e.Lines = append(e.Lines, pairs(10, 3)...)
	}
	if len(e.Lines) == 0 || what < 3 {
		return
	}
	x := &e.Lines[r.Intn(len(e.Lines))]
	switch what {
	case 3, 4:
		x.Code = bad[r.Intn(len(bad))]
	case 5, 6:
		x.Amount = amounts[r.Intn(len(amounts))]
	case 7, 8:
		x.Code = e.Lines[r.Intn(len(e.Lines))].Code
	case 9, 10:
		x.Amount++
	}
}

// P31: every byte, alone and at each place of a key, and every length.
func TestKey(t *testing.T) {
	check := func(s string) {
		t.Helper()
		if got := entry.Key(s); got != keys.MatchString(s) {
			t.Errorf("Key(%q) = %t", s, got)
		}
	}
	for n := range 30 {
		key := strings.Repeat("k", n)
		if entry.Key(key) != (n >= 1 && n <= 12) {
			t.Errorf("Key(%q) = %t", key, entry.Key(key))
		}
		for i := range n {
			for b := range 256 {
				check(key[:i] + string([]byte{byte(b)}) + key[i+1:])
			}
		}
	}
	for _, s := range []string{"a", "z", "0", "9", "-", "------------", "-------------", "a-1", "az09-az09-az", "az09-az09-azz", "A", "aB", "a_b", "a b", "a\n", "a:", "ä", "é", "１", strings.Repeat("a", 100000)} {
		check(s)
	}
}

// P32: valid entries, at the limits too.
func TestCheck(t *testing.T) {
	valid := []api.Entry{
		of(api.Line{Code: "1", Amount: 7}, api.Line{Code: "2", Amount: -7}),
		of(api.Line{Code: "2", Amount: -7}, api.Line{Code: "1", Amount: 7}),
		of(api.Line{Code: "3", Amount: 5}, api.Line{Code: "1", Amount: -3}, api.Line{Code: "2", Amount: -2}),
		of(api.Line{Code: "1", Amount: 7}, api.Line{Code: "01", Amount: -7}),
		of(api.Line{Code: "0", Amount: 1}, api.Line{Code: "00000000", Amount: -1}),
		of(api.Line{Code: "99999999", Amount: api.MaxMoney}, api.Line{Code: "9", Amount: -api.MaxMoney}),
		{Key: "-", Day: 0, Lines: pairs(2, 1)},
		{Key: "123456789-ab", Day: api.MaxDay, Lines: pairs(2, 1)},
	}
	for n := 2; n <= 12; n++ {
		valid = append(valid, of(pairs(n, api.MaxMoney)...))
	}
	// The sum is far beyond the range of an amount before it returns to 0.
	high := pairs(12, api.MaxMoney)
	slices.SortFunc(high, func(x, y api.Line) int { return y.Amount - x.Amount })
	valid = append(valid, of(high...))
	for _, e := range valid {
		if err := entry.Check(e); err != api.OK {
			t.Errorf("Check(%v) = %d", e, err)
		}
	}
}

// P32: each error, in the first and in later lines, and each value just out
// of its range and far out of it.
func TestCheckErrors(t *testing.T) {
	two := pairs(2, 7)
	var list []api.Entry
	var want []api.Errno
	add := func(err api.Errno, l ...api.Entry) {
		for _, e := range l {
			list, want = append(list, e), append(want, err)
		}
	}
	for _, key := range []string{"", "A", "a b", "1234567890abc", "a\n", "\xff"} {
		add(api.ErrForm, api.Entry{Key: key, Day: 5, Lines: two})
	}
	for _, day := range []int{-1, api.MaxDay + 1, math.MinInt, math.MaxInt} {
		add(api.ErrArg, api.Entry{Key: "a", Day: day, Lines: two})
	}
	add(api.ErrLarge, of(pairs(13, 7)...), of(pairs(14, 7)...), of(make([]api.Line, 13)...), of(make([]api.Line, 5000)...))
	for _, code := range []string{"", "x", "1x", "-1", "123456789", " 1", "1 "} {
		add(api.ErrForm, of(api.Line{Code: code, Amount: 7}, two[1]), of(two[0], api.Line{Code: code, Amount: -7}))
	}
	for _, amount := range []int{0, api.MaxMoney + 1, -api.MaxMoney - 1, math.MinInt, math.MaxInt} {
		add(api.ErrArg, of(api.Line{Code: "1", Amount: amount}, two[1]), of(two[0], api.Line{Code: "1", Amount: amount}))
		add(api.ErrArg, of(api.Line{Code: "1", Amount: amount}, api.Line{Code: "2", Amount: -amount}))
		add(api.ErrArg, of(two[0], two[1], api.Line{Code: "1", Amount: amount}))
	}
	add(api.ErrThere, of(two[0], two[0]), of(two[0], api.Line{Code: two[0].Code, Amount: -7}))
	twelve := pairs(12, 7)
	for i := range 12 {
		for j := range i {
			l := slices.Clone(twelve)
			l[i].Code = l[j].Code
			add(api.ErrThere, of(l...))
		}
	}
	add(api.ErrSum, of(), of(two[0]), of(two[1]), of(two[0], api.Line{Code: "1", Amount: -6}), of(two[0], api.Line{Code: "1", Amount: -8}))
	add(api.ErrSum, of(two[0], api.Line{Code: "1", Amount: 7}), of(two[0], two[1], api.Line{Code: "1", Amount: 1}))
	add(api.ErrSum, of(append(pairs(10, api.MaxMoney), api.Line{Code: "1", Amount: api.MaxMoney}, api.Line{Code: "2", Amount: 1 - api.MaxMoney})...))
	for i, e := range list {
		if err := entry.Check(e); err != want[i] {
			t.Errorf("Check(%v) = %d; want %d", e, err, want[i])
		}
	}
}

// P32: which of several errors is returned.
func TestCheckOrder(t *testing.T) {
	good, twin := api.Line{Code: "1", Amount: 7}, api.Line{Code: "1", Amount: -7}
	noCode, noAmount := api.Line{Code: "x", Amount: 7}, api.Line{Code: "2", Amount: 0}
	neither := api.Line{Code: "x", Amount: 0}
	for _, x := range []struct {
		e    api.Entry
		want api.Errno
	}{
		{api.Entry{}, api.ErrForm},
		{api.Entry{Key: "A", Day: -1, Lines: make([]api.Line, 13)}, api.ErrForm},
		{api.Entry{Key: "A", Day: 0, Lines: []api.Line{noAmount}}, api.ErrForm},
		{api.Entry{Key: "a", Day: -1, Lines: make([]api.Line, 13)}, api.ErrArg},
		{api.Entry{Key: "a", Day: -1, Lines: []api.Line{noCode}}, api.ErrArg},
		{api.Entry{Key: "a", Day: -1}, api.ErrArg},
		// Of one line: its code, its amount, the earlier lines.
		{of(neither), api.ErrForm},
		{of(good, api.Line{Code: "1", Amount: 0}), api.ErrArg},
		{of(good, api.Line{Code: "1", Amount: api.MaxMoney + 1}), api.ErrArg},
		// Of several lines: the first one.
		{of(noCode, noAmount), api.ErrForm},
		{of(noAmount, noCode), api.ErrArg},
		{of(good, twin, noCode), api.ErrThere},
		{of(good, twin, noAmount), api.ErrThere},
		{of(good, noCode, twin), api.ErrForm},
		{of(good, noAmount, twin), api.ErrArg},
		{of(noCode, noCode), api.ErrForm},
		// The sum comes last, however few the lines are.
		{of(noCode), api.ErrForm},
		{of(noAmount), api.ErrArg},
		{of(good, good), api.ErrThere},
		{of(api.Line{Code: "1", Amount: 9}, api.Line{Code: "2", Amount: 9}, api.Line{Code: "3x", Amount: 9}), api.ErrForm},
	} {
		if err := entry.Check(x.e); err != x.want {
			t.Errorf("Check(%v) = %d; want %d", x.e, err, x.want)
		}
	}
}

// P33: the example, the order of the lines, and the bounds.
func TestTurned(t *testing.T) {
	for _, x := range []struct {
		e    api.Entry
		key  string
		day  int
		want api.Entry
	}{
		{of(pairs(2, 7)...), "b", 6, api.Entry{Key: "b", Day: 6, Lines: pairs(2, -7)}},
		{of(pairs(2, 7)...), "a-1", 5, api.Entry{Key: "a-1", Day: 5, Lines: pairs(2, -7)}},
		{of(pairs(2, 7)...), "b", 0, api.Entry{Key: "b", Day: 0, Lines: pairs(2, -7)}},
		{of(pairs(12, api.MaxMoney)...), "123456789-ab", api.MaxDay, api.Entry{Key: "123456789-ab", Day: api.MaxDay, Lines: pairs(12, -api.MaxMoney)}},
		{
			of(api.Line{Code: "3", Amount: 5}, api.Line{Code: "1", Amount: -3}, api.Line{Code: "2", Amount: -2}), "-", 4,
			api.Entry{Key: "-", Day: 4, Lines: []api.Line{{Code: "3", Amount: -5}, {Code: "1", Amount: 3}, {Code: "2", Amount: 2}}},
		},
	} {
		if got, err := entry.Turned(x.e, x.key, x.day); !equal(got, x.want) || err != api.OK {
			t.Errorf("Turned(%v, %q, %d) = %v, %d; want %v", x.e, x.key, x.day, got, err, x.want)
		}
	}
}

// P33: each error, and which of several is returned.
func TestTurnedErrors(t *testing.T) {
	good := of(pairs(2, 7)...)
	bare := of()
	for _, x := range []struct {
		e    api.Entry
		key  string
		day  int
		want api.Errno
	}{
		{good, "", 6, api.ErrForm},
		{good, "B", 6, api.ErrForm},
		{good, "1234567890abc", 6, api.ErrForm},
		{good, "b", -1, api.ErrArg},
		{good, "b", api.MaxDay + 1, api.ErrArg},
		{good, "b", math.MinInt, api.ErrArg},
		{good, "b", math.MaxInt, api.ErrArg},
		{good, "B", -1, api.ErrForm},
		{bare, "b", 6, api.ErrSum},
		{bare, "B", -1, api.ErrSum},
		{of(make([]api.Line, 13)...), "B", 6, api.ErrLarge},
		{of(pairs(2, math.MinInt)...), "b", 6, api.ErrArg},
		{of(pairs(2, 0)...), "B", 6, api.ErrArg},
		{api.Entry{Key: "A", Day: 5, Lines: pairs(2, 7)}, "b", 6, api.ErrForm},
		{api.Entry{Key: "A", Day: 5, Lines: pairs(2, 7)}, "b", -1, api.ErrForm},
		{api.Entry{Key: "a", Day: -1, Lines: pairs(2, 7)}, "b", 6, api.ErrArg},
		{api.Entry{Key: "a", Day: -1, Lines: pairs(2, 7)}, "B", 6, api.ErrArg},
		{of(api.Line{Code: "1", Amount: 7}, api.Line{Code: "1", Amount: -7}), "B", -1, api.ErrThere},
	} {
		if got, err := entry.Turned(x.e, x.key, x.day); !empty(got) || err != x.want {
			t.Errorf("Turned(%v, %q, %d) = %v, %d; want %d", x.e, x.key, x.day, got, err, x.want)
		}
	}
}

// P32, P33: entries at random against direct readings; a reversal is valid,
// and its reversal is the entry.
func TestDefinition(t *testing.T) {
	r := rand.New(rand.NewSource(33))
	seen := map[api.Errno]int{}
	for range 100000 {
		e := randomEntry(r)
		want := firstError(e)
		seen[want]++
		if err := entry.Check(e); err != want {
			t.Fatalf("Check(%v) = %d; want %d", e, err, want)
		}
		day := r.Intn(api.MaxDay + 1)
		back, err := entry.Turned(e, "back", day)
		if err != want {
			t.Fatalf("Turned(%v, ..) = %v, %d; want %d", e, back, err, want)
		}
		if err != api.OK {
			if !empty(back) {
				t.Fatalf("Turned(%v, ..) = %v, %d", e, back, err)
			}
			continue
		}
		if back.Key != "back" || back.Day != day || len(back.Lines) != len(e.Lines) {
			t.Fatalf("Turned(%v, \"back\", %d) = %v", e, day, back)
		}
		for i, x := range e.Lines {
			if y := back.Lines[i]; y.Code != x.Code || y.Amount+x.Amount != 0 {
				t.Fatalf("Turned(%v, ..) = %v", e, back)
			}
		}
		if again, err := entry.Turned(back, e.Key, e.Day); !equal(again, e) || err != api.OK {
			t.Fatalf("Turned(Turned(%v)) = %v, %d", e, again, err)
		}
	}
	for _, err := range []api.Errno{api.OK, api.ErrForm, api.ErrArg, api.ErrLarge, api.ErrThere, api.ErrSum} {
		if seen[err] < 1000 {
			t.Errorf("only %d entries with error %d", seen[err], err)
		}
	}
}

// P2: the entry stays as it is, with the spare capacity of its lines, and a
// result is new memory.
func TestMemory(t *testing.T) {
	room := []api.Line{{Code: "1", Amount: 7}, {Code: "2", Amount: -7}, {Code: "spare", Amount: 77}, {Code: "too", Amount: 78}}
	was := slices.Clone(room)
	e := of(room[:2]...)
	a, _ := entry.Turned(e, "b", 6)
	b, _ := entry.Turned(e, "b", 6)
	lines := b.Lines[:cap(b.Lines)]
	for i := range lines {
		lines[i] = api.Line{Code: "changed", Amount: -1}
	}
	c, _ := entry.Turned(e, "b", 6)
	want := []api.Line{{Code: "1", Amount: -7}, {Code: "2", Amount: 7}}
	if !slices.Equal(a.Lines, want) || !slices.Equal(c.Lines, want) {
		t.Errorf("%v and %v; want %v", a, c, want)
	}
	entry.Check(e)
	if !slices.Equal(room, was) {
		t.Errorf("the lines are now %v", room)
	}
}
