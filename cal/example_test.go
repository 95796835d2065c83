package cal_test

import (
	"fmt"

	"tallage/api"
	"tallage/cal"
)

func ExampleAdd() {
	n, _ := cal.Of(api.Day{Y: 1600, M: 1, D: 31})
	later, _ := cal.Add(n, 1)
	fmt.Println(cal.Date(later))
	// Output: {1600 2 29} 0
}
