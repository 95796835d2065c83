package fall_test

import (
	"fmt"

	"tallage/fall"
)

func ExampleFalling() {
	fmt.Println(fall.Falling(100, 10, 500000, 3))
	// Output: [50 25 15] 0
}

func ExampleUnits() {
	fmt.Println(fall.Units(100, 0, 10, []int{3, 9, 1}))
	// Output: [30 70 0] 0
}
