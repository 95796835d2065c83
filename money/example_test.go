package money_test

import (
	"fmt"

	"tallage/api"
	"tallage/money"
)

func ExampleShare() {
	fmt.Println(money.Share(125, 100000, api.Near))
	fmt.Println(money.Share(125, 100000, api.Even))
	// Output:
	// 13 0
	// 12 0
}

func ExampleWith() {
	fmt.Println(money.With(100, 190000, api.Near))
	// Output: 119 19 0
}

func ExampleWithin() {
	fmt.Println(money.Within(119, 190000, api.Near))
	// Output: 100 19 0
}
