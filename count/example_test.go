package count_test

import (
	"fmt"

	"tallage/api"
	"tallage/cal"
	"tallage/count"
)

func ExampleBetween() {
	from, _ := cal.Of(api.Day{Y: 1600, M: 1, D: 1})
	to, _ := cal.Of(api.Day{Y: 1600, M: 3, D: 1})
	fmt.Println(count.Between(api.Euro30, from, to))
	// Output: {60 360} 0
}
