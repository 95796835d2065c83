package earn_test

import (
	"fmt"

	"tallage/earn"
)

func ExampleBy() {
	fmt.Println(earn.By(100, 10, 13, 11))
	// Output: 50 0
}

func ExampleMonths() {
	fmt.Println(earn.Months(62, 0, 61))
	// Output: [31 29 2] 0
}
