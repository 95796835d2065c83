package line_test

import (
	"fmt"

	"tallage/line"
)

func ExampleStraight() {
	fmt.Println(line.Straight(10, 0, 4))
	// Output: [3 2 3 2] 0
}

func ExampleDigits() {
	fmt.Println(line.Digits(70, 10, 3))
	// Output: [30 20 10] 0
}
