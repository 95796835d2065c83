package tie_test

import (
	"fmt"

	"tallage/api"
	"tallage/tie"
)

func ExampleTie() {
	bank := []api.Item{{Day: 5, Amount: 1}, {Day: 3, Amount: 1}, {Day: 4, Amount: 2}}
	books := []api.Item{{Day: 2, Amount: 1}, {Day: 6, Amount: 1}, {Day: 9, Amount: 2}}
	fmt.Println(tie.Tie(bank, books, 3))
	// Output: [1 0 -1] 0
}
