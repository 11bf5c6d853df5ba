package heap_test

import (
	"fmt"

	"limewash/api"
	"limewash/heap"
)

// The example of README.md.
func Example() {
	h, _ := heap.New(20)
	h, list, _ := heap.Alloc(h, 2)
	h, item, _ := heap.Alloc(h, 0)
	h, _ = heap.Store(h, list, 0, api.Value{Kind: api.Number, N: 7})
	h, err := heap.Store(h, list, 1, api.Value{Kind: api.Object, N: item})
	v, _ := heap.Load(h, list, 1)
	fmt.Println(err == api.OK, list, item, v.N, h.Words[:h.Top])
	// Output: true 1 5 5 [0 0 2 14 11 0 0]
}
