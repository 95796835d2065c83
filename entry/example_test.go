package entry_test

import (
	"fmt"

	"tallage/api"
	"tallage/entry"
)

var sale = api.Entry{
	Key:   "sale-1",
	Day:   59,
	Lines: []api.Line{{Code: "1", Amount: 7}, {Code: "2", Amount: -7}},
}

func ExampleKey() {
	fmt.Println(entry.Key("sale-1"), entry.Key("Sale 1"))
	// Output: true false
}

func ExampleCheck() {
	fmt.Println(entry.Check(sale))
	// Output: 0
}

func ExampleTurned() {
	fmt.Println(entry.Turned(sale, "undo-1", 60))
	// Output: {undo-1 60 [{1 -7} {2 7}]} 0
}
