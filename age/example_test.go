package age_test

import (
	"fmt"

	"tallage/age"
	"tallage/api"
)

func ExampleCheck() {
	fmt.Println(age.Check([]api.Item{{Day: 5, Amount: 10}, {Day: 3, Amount: 10}}))
	fmt.Println(age.Check([]api.Item{{Day: 5}}))
	// Output:
	// 0
	// 1
}

func ExamplePay() {
	fmt.Println(age.Pay([]api.Item{{Day: 5, Amount: 10}, {Day: 3, Amount: 10}, {Day: 5, Amount: 2}}, 15))
	// Output: [{5 5} {5 2}] 0 0
}

func ExampleAges() {
	fmt.Println(age.Ages([]api.Item{{Day: 5, Amount: 10}, {Day: 3, Amount: 10}, {Day: 5, Amount: 2}}, 8, []int{0, 3, 4}))
	// Output: [0 12 0 10] 0
}
