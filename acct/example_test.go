package acct_test

import (
	"fmt"

	"tallage/acct"
	"tallage/api"
)

var chart = []api.Acct{
	{Code: "1", Kind: api.Asset},
	{Code: "10", Kind: api.Asset},
	{Code: "2", Kind: api.Income},
}

func ExampleCode() {
	fmt.Println(acct.Code("4711"), acct.Code("47a"))
	// Output: true false
}

func ExampleCheck() {
	fmt.Println(acct.Check(chart))
	// Output: 0
}

func ExampleKind() {
	fmt.Println(acct.Kind(chart, "2"))
	// Output: 3 0
}

func ExampleUnder() {
	fmt.Println(acct.Under(chart, "1"))
	// Output: [1 10] 0
}
