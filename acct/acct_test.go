package acct_test

import (
	"math"
	"math/rand"
	"regexp"
	"slices"
	"strconv"
	"strings"
	"testing"

	"tallage/acct"
	"tallage/api"
)

// digits is P28 as a pattern.
var digits = regexp.MustCompile(`\A[0-9]{1,8}\z`)

// firstError is P29, read account by account.
func firstError(l []api.Acct) api.Errno {
	if len(l) > 24 {
		return api.ErrLarge
	}
	for i, a := range l {
		switch {
		case !digits.MatchString(a.Code):
			return api.ErrForm
		case !slices.Contains([]int{0, 1, 2, 3, 4}, a.Kind):
			return api.ErrArg
		case i > 0 && strings.Compare(l[i-1].Code, a.Code) != -1:
			return api.ErrForm
		}
	}
	return api.OK
}

// numbered has n accounts with codes of two digits.
func numbered(n int) []api.Acct {
	var l []api.Acct
	for i := range n {
		l = append(l, api.Acct{Code: strconv.Itoa(10 + i), Kind: i % 5})
	}
	return l
}

// randomList has few different codes and kinds, so that every error and every
// order of two errors comes up.
func randomList(r *rand.Rand) []api.Acct {
	codes := []string{"0", "00", "01", "1", "10", "100", "12345678", "19", "2", "20", "9", "99999999"}
	bad := []string{"", "123456789", "x", "1x", "-1", "+1", " 1", "1 ", "1.", "\x00", "\xff", "१"}
	l := make([]api.Acct, r.Intn(6))
	for i := range l {
		l[i] = api.Acct{Code: codes[r.Intn(len(codes))], Kind: r.Intn(5)}
	}
	slices.SortFunc(l, func(a, b api.Acct) int { return strings.Compare(a.Code, b.Code) })
	for i := range l {
		switch r.Intn(25) {
		case 0:
			l[i].Code = bad[r.Intn(len(bad))]
		case 1:
			l[i].Kind = []int{-1, 5, math.MinInt, math.MaxInt}[r.Intn(4)]
		case 2:
			l[i].Code = codes[r.Intn(len(codes))]
		}
	}
	return l
}

// P28: every byte, alone and at each place of a code, and every length.
func TestCode(t *testing.T) {
	check := func(s string) {
		t.Helper()
		if got := acct.Code(s); got != digits.MatchString(s) {
			t.Errorf("Code(%q) = %t", s, got)
		}
	}
	for n := range 30 {
		code := strings.Repeat("7", n)
		if acct.Code(code) != (n >= 1 && n <= 8) {
			t.Errorf("Code(%q) = %t", code, acct.Code(code))
		}
		for i := range n {
			for b := range 256 {
				check(code[:i] + string([]byte{byte(b)}) + code[i+1:])
			}
		}
	}
	for _, s := range []string{"0", "00000000", "99999999", "01", "123456789", "-1", "+1", "1\n", "\n", "1e3", "0x1", "1_0", "١", "１", "²", strings.Repeat("1", 100000)} {
		check(s)
	}
}

// P29: valid lists, at the limits too.
func TestCheck(t *testing.T) {
	for _, l := range [][]api.Acct{
		nil,
		{},
		{{Code: "0"}},
		{{Code: "1", Kind: api.Asset}, {Code: "2", Kind: api.Liability}, {Code: "3", Kind: api.Equity}, {Code: "4", Kind: api.Income}, {Code: "5", Kind: api.Expense}},
		{{Code: "1"}, {Code: "10"}, {Code: "2"}},
		{{Code: "0"}, {Code: "00"}, {Code: "00000000"}, {Code: "00000001"}, {Code: "1"}},
		{{Code: "99999998"}, {Code: "99999999"}},
		numbered(23),
		numbered(24),
	} {
		if err := acct.Check(l); err != api.OK {
			t.Errorf("Check(%v) = %d", l, err)
		}
	}
}

// P29: each error, in the first and in later accounts, and which of several
// is returned.
func TestCheckErrors(t *testing.T) {
	for _, x := range []struct {
		l    []api.Acct
		want api.Errno
	}{
		{numbered(25), api.ErrLarge},
		{make([]api.Acct, 25), api.ErrLarge},
		{slices.Repeat([]api.Acct{{Code: "1", Kind: 5}}, 25), api.ErrLarge},
		{make([]api.Acct, 5000), api.ErrLarge},
		{make([]api.Acct, 24), api.ErrForm},
		{[]api.Acct{{}}, api.ErrForm},
		{[]api.Acct{{Code: "123456789"}}, api.ErrForm},
		{[]api.Acct{{Code: "a"}}, api.ErrForm},
		{[]api.Acct{{Code: "1"}, {Code: ""}}, api.ErrForm},
		{[]api.Acct{{Code: "1"}, {Code: "2x"}}, api.ErrForm},
		{[]api.Acct{{Code: "1", Kind: 5}}, api.ErrArg},
		{[]api.Acct{{Code: "1", Kind: -1}}, api.ErrArg},
		{[]api.Acct{{Code: "1", Kind: math.MaxInt}}, api.ErrArg},
		{[]api.Acct{{Code: "1", Kind: math.MinInt}}, api.ErrArg},
		{[]api.Acct{{Code: "1"}, {Code: "2", Kind: 5}}, api.ErrArg},
		{append(numbered(23), api.Acct{Code: "99", Kind: 5}), api.ErrArg},
		{[]api.Acct{{Code: "1"}, {Code: "1"}}, api.ErrForm},
		{[]api.Acct{{Code: "1"}, {Code: "1", Kind: 1}}, api.ErrForm},
		{[]api.Acct{{Code: "2"}, {Code: "1"}}, api.ErrForm},
		{[]api.Acct{{Code: "2"}, {Code: "10"}}, api.ErrForm},
		{[]api.Acct{{Code: "10"}, {Code: "1"}}, api.ErrForm},
		{[]api.Acct{{Code: "1"}, {Code: "3"}, {Code: "2"}}, api.ErrForm},
		{[]api.Acct{{Code: "2"}, {Code: "3"}, {Code: "1"}}, api.ErrForm},
		// Of one account: its code, its kind, its place.
		{[]api.Acct{{Code: "x", Kind: 5}}, api.ErrForm},
		{[]api.Acct{{Code: "2"}, {Code: "1", Kind: 5}}, api.ErrArg},
		{[]api.Acct{{Code: "1"}, {Code: "1", Kind: -1}}, api.ErrArg},
		// Of several accounts: the first one.
		{[]api.Acct{{Code: "1", Kind: 5}, {Code: "x"}}, api.ErrArg},
		{[]api.Acct{{Code: "x"}, {Code: "1", Kind: 5}}, api.ErrForm},
		{[]api.Acct{{Code: "1"}, {Code: "2", Kind: 5}, {Code: "1"}}, api.ErrArg},
		{[]api.Acct{{Code: "2"}, {Code: "1"}, {Code: "3", Kind: 5}}, api.ErrForm},
	} {
		if err := acct.Check(x.l); err != x.want {
			t.Errorf("Check(%v) = %d; want %d", x.l, err, x.want)
		}
	}
}

// P30: the kind of each account of a chart, and codes that it does not have.
func TestKind(t *testing.T) {
	l := []api.Acct{{Code: "0", Kind: api.Expense}, {Code: "1", Kind: api.Asset}, {Code: "10", Kind: api.Income}, {Code: "100", Kind: api.Equity}, {Code: "2", Kind: api.Liability}}
	for _, a := range l {
		if k, err := acct.Kind(l, a.Code); k != a.Kind || err != api.OK {
			t.Errorf("Kind(%q) = %d, %d; want %d", a.Code, k, err, a.Kind)
		}
	}
	for _, code := range []string{"", "00", "01", "1000", "11", "20", "3", "x", "1 ", "123456789", "\x00", "\xff"} {
		if k, err := acct.Kind(l, code); k != 0 || err != api.ErrNone {
			t.Errorf("Kind(%q) = %d, %d; want ErrNone", code, k, err)
		}
	}
	for _, code := range []string{"", "1"} {
		if k, err := acct.Kind(nil, code); k != 0 || err != api.ErrNone {
			t.Errorf("Kind(nil, %q) = %d, %d; want ErrNone", code, k, err)
		}
	}
	full := numbered(24)
	if k, err := acct.Kind(full, "33"); k != full[23].Kind || err != api.OK {
		t.Errorf("Kind of the last account = %d, %d", k, err)
	}
}

// P30: prefixes that are codes, that are none, and that are no code at all.
func TestUnder(t *testing.T) {
	l := []api.Acct{{Code: "01"}, {Code: "1"}, {Code: "10", Kind: api.Income}, {Code: "105"}, {Code: "11"}, {Code: "2", Kind: api.Expense}, {Code: "21"}, {Code: "31111111"}}
	for _, x := range []struct {
		code string
		want []string
	}{
		{"", []string{"01", "1", "10", "105", "11", "2", "21", "31111111"}},
		{"0", []string{"01"}},
		{"1", []string{"1", "10", "105", "11"}},
		{"10", []string{"10", "105"}},
		{"105", []string{"105"}},
		{"1050", nil},
		{"2", []string{"2", "21"}},
		{"3", []string{"31111111"}},
		{"3111111", []string{"31111111"}},
		{"31111111", []string{"31111111"}},
		{"311111111", nil},
		{"4", nil},
		{"5", nil},
		{"x", nil},
		{"1x", nil},
		{" ", nil},
		{"\x00", nil},
		{"\xff", nil},
		{strings.Repeat("1", 100000), nil},
	} {
		if got, err := acct.Under(l, x.code); !slices.Equal(got, x.want) || err != api.OK {
			t.Errorf("Under(%.12q) = %q, %d; want %q", x.code, got, err, x.want)
		}
		if got, err := acct.Under(nil, x.code); len(got) != 0 || err != api.OK {
			t.Errorf("Under(nil, %.12q) = %q, %d", x.code, got, err)
		}
	}
	if got, err := acct.Under(numbered(24), ""); len(got) != 24 || err != api.OK {
		t.Errorf("Under of 24 accounts = %q, %d", got, err)
	}
}

// P29, P30: lists at random against direct readings; the error of Check comes
// first, whatever the code is.
func TestDefinition(t *testing.T) {
	r := rand.New(rand.NewSource(30))
	seen := map[api.Errno]int{}
	for range 50000 {
		l := randomList(r)
		want := firstError(l)
		seen[want]++
		if err := acct.Check(l); err != want {
			t.Fatalf("Check(%v) = %d; want %d", l, err, want)
		}
		for _, code := range []string{"", "0", "1", "10", "12345678", "2", "x"} {
			kind, kindErr := 0, api.ErrNone
			var codes []string
			for _, a := range l {
				if a.Code == code {
					kind, kindErr = a.Kind, api.OK
				}
				if len(a.Code) >= len(code) && a.Code[:len(code)] == code {
					codes = append(codes, a.Code)
				}
			}
			if want != api.OK {
				kind, kindErr, codes = 0, want, nil
			}
			if k, err := acct.Kind(l, code); k != kind || err != kindErr {
				t.Fatalf("Kind(%v, %q) = %d, %d; want %d, %d", l, code, k, err, kind, kindErr)
			}
			if got, err := acct.Under(l, code); !slices.Equal(got, codes) || err != want {
				t.Fatalf("Under(%v, %q) = %q, %d; want %q, %d", l, code, got, err, codes, want)
			}
		}
	}
	for _, err := range []api.Errno{api.OK, api.ErrForm, api.ErrArg} {
		if seen[err] < 1000 {
			t.Errorf("only %d lists with error %d", seen[err], err)
		}
	}
	large := numbered(25)
	if k, err := acct.Kind(large, "11"); k != 0 || err != api.ErrLarge {
		t.Errorf("Kind of 25 accounts = %d, %d", k, err)
	}
	if got, err := acct.Under(large, ""); len(got) != 0 || err != api.ErrLarge {
		t.Errorf("Under of 25 accounts = %q, %d", got, err)
	}
}

// P2: the list stays as it is, with its spare capacity, and a result is new
// memory.
func TestMemory(t *testing.T) {
	room := []api.Acct{{Code: "1", Kind: 1}, {Code: "10", Kind: 2}, {Code: "2", Kind: 3}, {Code: "spare", Kind: 77}, {Code: "too", Kind: 78}}
	was := slices.Clone(room)
	l := room[:3]
	a, _ := acct.Under(l, "1")
	b, _ := acct.Under(l, "1")
	b = b[:cap(b)]
	for i := range b {
		b[i] = "changed"
	}
	c, _ := acct.Under(l, "1")
	if want := []string{"1", "10"}; !slices.Equal(a, want) || !slices.Equal(c, want) {
		t.Errorf("%q and %q; want %q", a, c, want)
	}
	acct.Check(l)
	acct.Kind(l, "10")
	acct.Kind(l, "3")
	if !slices.Equal(room, was) {
		t.Errorf("the list is now %v", room)
	}
}
