package trial_test

import (
	"fmt"

	"tallage/api"
	"tallage/trial"
)

// ledger has a loan, a sale and a rent.
var ledger = api.Book{
	Accts: []api.Acct{
		{Code: "1", Kind: api.Asset},
		{Code: "2", Kind: api.Liability},
		{Code: "3", Kind: api.Equity},
		{Code: "4", Kind: api.Income},
		{Code: "5", Kind: api.Expense},
	},
	Entries: []api.Entry{
		{Key: "loan", Day: 1, Lines: []api.Line{{Code: "1", Amount: 50}, {Code: "2", Amount: -50}}},
		{Key: "sale", Day: 2, Lines: []api.Line{{Code: "1", Amount: 7}, {Code: "4", Amount: -7}}},
		{Key: "rent", Day: 3, Lines: []api.Line{{Code: "5", Amount: 4}, {Code: "1", Amount: -4}}},
	},
	Shut: -1,
}

func ExampleTrial() {
	fmt.Println(trial.Trial(ledger, 1))
	fmt.Println(trial.Trial(ledger, 3))
	// Output:
	// 50 50 0
	// 57 57 0
}

func ExampleProfit() {
	fmt.Println(trial.Profit(ledger, 1, 2))
	fmt.Println(trial.Profit(ledger, 1, 3))
	// Output:
	// 7 0
	// 3 0
}

func ExampleSheet() {
	fmt.Println(trial.Sheet(ledger, 3))
	// Output: 53 50 0 0
}
