package stock_test

import (
	"fmt"

	"tallage/api"
	"tallage/stock"
)

func ExampleFifo() {
	fmt.Println(stock.Fifo([]api.Move{{Count: 2, Cost: 10}, {Count: 2, Cost: 31}, {Count: -3}}))
	// Output: [25] [{1 16}] 0
}

func ExampleMean() {
	fmt.Println(stock.Mean([]api.Move{{Count: 2, Cost: 10}, {Count: 2, Cost: 31}, {Count: -3}}))
	// Output: [31] {1 10} 0
}
