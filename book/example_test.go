package book_test

import (
	"fmt"

	"tallage/api"
	"tallage/book"
)

var ledger = api.Book{
	Accts: []api.Acct{{Code: "1", Kind: api.Asset}, {Code: "2", Kind: api.Income}},
	Entries: []api.Entry{
		{Key: "sale-1", Day: 59, Lines: []api.Line{{Code: "1", Amount: 7}, {Code: "2", Amount: -7}}},
	},
	Shut: -1,
}

func ExampleCheck() {
	fmt.Println(book.Check(ledger))
	// Output: 0
}

func ExamplePost() {
	sale := api.Entry{Key: "sale-2", Day: 60, Lines: []api.Line{{Code: "1", Amount: 5}, {Code: "2", Amount: -5}}}
	once, err := book.Post(ledger, sale)
	fmt.Println(once.Entries, err)
	twice, err := book.Post(once, sale)
	fmt.Println(twice.Entries, err)
	// Output:
	// [{sale-1 59 [{1 7} {2 -7}]} {sale-2 60 [{1 5} {2 -5}]}] 0
	// [{sale-1 59 [{1 7} {2 -7}]} {sale-2 60 [{1 5} {2 -5}]}] 0
}

func ExampleGet() {
	fmt.Println(book.Get(ledger, "sale-1"))
	// Output: {sale-1 59 [{1 7} {2 -7}]} 0
}

func ExampleBalance() {
	fmt.Println(book.Balance(ledger, "1", 58))
	fmt.Println(book.Balance(ledger, "1", 59))
	// Output:
	// 0 0
	// 7 0
}

func ExampleShut() {
	shut, err := book.Shut(ledger, 90)
	fmt.Println(shut.Shut, err)
	// Output: 90 0
}
