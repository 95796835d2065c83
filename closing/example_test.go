package closing_test

import (
	"fmt"

	"tallage/api"
	"tallage/book"
	"tallage/closing"
	"tallage/trial"
)

// ledger has a sale and a rent.
var ledger = api.Book{
	Accts: []api.Acct{
		{Code: "1", Kind: api.Asset},
		{Code: "3", Kind: api.Equity},
		{Code: "4", Kind: api.Income},
		{Code: "5", Kind: api.Expense},
	},
	Entries: []api.Entry{
		{Key: "sale", Day: 2, Lines: []api.Line{{Code: "1", Amount: 7}, {Code: "4", Amount: -7}}},
		{Key: "rent", Day: 3, Lines: []api.Line{{Code: "5", Amount: 4}, {Code: "1", Amount: -4}}},
	},
	Shut: -1,
}

func ExampleClose() {
	closed, err := closing.Close(ledger, "close", 31, "3")
	fmt.Println(closed.Shut, err)
	fmt.Println(book.Get(closed, "close"))
	fmt.Println(trial.Profit(closed, 0, 31))
	// Output:
	// 31 0
	// {close 31 [{4 7} {5 -4} {3 -3}]} 0
	// 0 0
}

func ExampleUndo() {
	undone, err := closing.Undo(ledger, "sale", "undo", 4)
	fmt.Println(err)
	fmt.Println(book.Get(undone, "undo"))
	fmt.Println(book.Balance(undone, "4", 4))
	// Output:
	// 0
	// {undo 4 [{1 -7} {4 7}]} 0
	// 0 0
}
