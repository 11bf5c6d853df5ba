package gc_test

import (
	"fmt"

	"limewash/api"
	"limewash/gc"
	"limewash/heap"
)

// The example of README.md.
func Example() {
	h, _ := heap.New(20)
	h, _, _ = heap.Alloc(h, 3)
	h, list, _ := heap.Alloc(h, 1)
	h, item, _ := heap.Alloc(h, 0)
	h, _ = heap.Store(h, list, 0, api.Value{Kind: api.Object, N: item})
	keep, _ := gc.Reach(h, []int{list})
	h, moves, err := gc.Compact(h, keep)
	fmt.Println(err == api.OK, keep, moves, h.Words[:h.Top])
	// Output: true [6 9] [{6 1} {9 4}] [0 0 1 9 0 0]
}

// The example of chapter 2.
func ExampleCompact() {
	h, _ := heap.New(20)
	h, list, _ := heap.Alloc(h, 1)
	h, item, _ := heap.Alloc(h, 0)
	h, _ = heap.Store(h, list, 0, api.Value{Kind: api.Object, N: item})
	_, _, err := gc.Compact(h, []int{list})
	fmt.Println(err == api.ErrState)
	// Output: true
}
