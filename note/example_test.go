package note_test

import (
	"fmt"

	"tallage/note"
)

func ExampleRows() {
	fmt.Println(note.Rows(100, 100000, 60))
	// Output: [{10 50 50} {5 50 0}] 0
}

func ExampleLeast() {
	fmt.Println(note.Least(100, 100000, 2))
	// Output: 58 0
}
