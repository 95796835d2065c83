package frac_test

import (
	"fmt"

	"tallage/api"
	"tallage/frac"
)

func ExampleRound() {
	half := api.Frac{Num: 5, Den: 2}
	fmt.Println(frac.Round(half, api.Near))
	fmt.Println(frac.Round(half, api.Even))
	// Output:
	// 3 0
	// 2 0
}

func ExampleAdd() {
	fmt.Println(frac.Add(api.Frac{Num: 1, Den: 6}, api.Frac{Num: 1, Den: 3}))
	// Output: {1 2} 0
}
