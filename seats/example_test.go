package seats_test

import (
	"fmt"

	"tallage/api"
	"tallage/seats"
)

func ExampleDeal() {
	fmt.Println(seats.Deal(api.Webster, 4, []int{30, 20}))
	// Output: [2 2] 0
}

func ExampleQuotas() {
	fmt.Println(seats.Quotas(10, []int{1, 2}))
	// Output: [3 6] 0
}
