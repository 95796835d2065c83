// Package copies copies books and entries, so that a result shares no memory
// with an argument.
package copies

import "tallage/api"

// Book returns a book that shares no memory with b.
func Book(b api.Book) api.Book {
	accts := make([]api.Acct, len(b.Accts))
	copy(accts, b.Accts)
	entries := make([]api.Entry, len(b.Entries))
	for i, e := range b.Entries {
		entries[i] = Entry(e)
	}
	return api.Book{Accts: accts, Entries: entries, Shut: b.Shut}
}

// Entry returns an entry that shares no memory with e.
func Entry(e api.Entry) api.Entry {
	lines := make([]api.Line, len(e.Lines))
	copy(lines, e.Lines)
	return api.Entry{Key: e.Key, Day: e.Day, Lines: lines}
}
