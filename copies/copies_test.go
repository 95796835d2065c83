package copies_test

import (
	"reflect"
	"slices"
	"testing"

	"tallage/api"
	"tallage/copies"
)

// spacious is a book whose entries share their lines, and whose slices have
// spare capacity that is in use.
func spacious() api.Book {
	lines := []api.Line{{Code: "1", Amount: 7}, {Code: "2", Amount: -7}, {Code: "spare", Amount: 1}}
	return api.Book{
		Accts: []api.Acct{{Code: "1"}, {Code: "2", Kind: api.Income}, {Code: "spare", Kind: 77}}[:2],
		Entries: []api.Entry{
			{Key: "a", Day: 3, Lines: lines[:2]},
			{Key: "b", Day: 4, Lines: lines[:2]},
			{Key: "spare", Day: 5, Lines: lines},
		}[:2],
		Shut: 2,
	}
}

// overwrite changes the lines with their spare capacity.
func overwrite(l []api.Line) {
	l = l[:cap(l)]
	for i := range l {
		l[i] = api.Line{Code: "changed", Amount: -1}
	}
}

// P2: a copied book is equal to the book, and shares no memory with it.
func TestBook(t *testing.T) {
	b, same := spacious(), spacious()
	x := copies.Book(b)
	if !reflect.DeepEqual(x, same) {
		t.Fatal(x)
	}
	overwrite(x.Entries[0].Lines)
	if !slices.Equal(x.Entries[1].Lines, same.Entries[1].Lines) {
		t.Error(x)
	}
	for i := range x.Entries[:cap(x.Entries)] {
		x.Entries[:cap(x.Entries)][i] = api.Entry{Key: "changed"}
	}
	for i := range x.Accts[:cap(x.Accts)] {
		x.Accts[:cap(x.Accts)][i] = api.Acct{Code: "changed"}
	}
	if !reflect.DeepEqual(b.Accts[:3], same.Accts[:3]) || !reflect.DeepEqual(b.Entries[:3], same.Entries[:3]) {
		t.Error(b)
	}
	if x := copies.Book(api.Book{}); len(x.Accts) > 0 || len(x.Entries) > 0 || x.Shut != 0 {
		t.Error(x)
	}
}

// P2: a copied entry is equal to the entry, and shares no memory with it.
func TestEntry(t *testing.T) {
	e, same := spacious().Entries[1], spacious().Entries[1]
	x := copies.Entry(e)
	if !reflect.DeepEqual(x, same) {
		t.Fatal(x)
	}
	overwrite(x.Lines)
	if !slices.Equal(e.Lines[:3], same.Lines[:3]) {
		t.Error(e)
	}
	if x := copies.Entry(api.Entry{}); x.Key != "" || x.Day != 0 || len(x.Lines) > 0 {
		t.Error(x)
	}
}
