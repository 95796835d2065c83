package job_test

import (
	"fmt"

	"tallage/api"
	"tallage/book"
	"tallage/job"
)

// rent is 10 in three parts, from January 31 on.
var rent = []api.Plan{{Key: "rent", From: 30, Amount: 10, Num: 3, Debit: "50", Credit: "10"}}

func ExampleDue() {
	fmt.Println(job.Due(rent, 30))
	fmt.Println(job.Due(rent, 59))
	// Output:
	// [{rent-00 30 [{50 3} {10 -3}]}] 0
	// [{rent-00 30 [{50 3} {10 -3}]} {rent-01 59 [{50 4} {10 -4}]}] 0
}

func ExampleRun() {
	b := api.Book{Accts: []api.Acct{{Code: "10", Kind: api.Asset}, {Code: "50", Kind: api.Expense}}, Shut: -1}
	b, _ = job.Run(b, rent, 59)
	b, err := job.Run(b, rent, 59)
	fmt.Println(len(b.Entries), err)
	fmt.Println(book.Balance(b, "50", 59))
	// Output:
	// 2 0
	// 7 0
}
