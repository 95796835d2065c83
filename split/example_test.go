package split_test

import (
	"fmt"

	"tallage/split"
)

func ExampleBy() {
	fmt.Println(split.By(10, []int{1, 1, 1}))
	fmt.Println(split.By(-10, []int{2, 1}))
	// Output:
	// [4 3 3] 0
	// [-7 -3] 0
}

func ExampleEven() {
	fmt.Println(split.Even(10, 4))
	// Output: [2 3 2 3] 0
}
