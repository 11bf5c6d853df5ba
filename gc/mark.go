package gc

import (
	"slices"

	"limewash/api"
	"limewash/heap"
)

func isPlace(places []int, p int) bool {
	_, found := slices.BinarySearch(places, p)
	return found
}

// areRoots: is each of these an object, or 0 for none?
func areRoots(places, roots []int) bool {
	for _, p := range roots {
		if p != 0 && !isPlace(places, p) {
			return false
		}
	}
	return true
}

// fields of the object at p: a part of the heap's words, not a copy.
func fields(h api.Heap, p int) []int {
	first := p + api.Head
	return h.Words[first : first+h.Words[p+1]]
}

// mark all objects that are reached from the roots. The heap is valid, and the roots are objects of it, or 0.
func mark(h api.Heap, roots []int) map[int]bool {
	marked := map[int]bool{}
	// Objects that are marked, but whose fields have not been followed. References may form circles: each object enters once.
	var open []int
	visit := func(p int) {
		if p != 0 && !marked[p] {
			marked[p] = true
			open = append(open, p)
		}
	}
	for _, p := range roots {
		visit(p)
	}
	for len(open) > 0 {
		last := len(open) - 1
		p := open[last]
		open = open[:last]
		for _, w := range fields(h, p) {
			if v := heap.Of(w); v.Kind == api.Object {
				visit(v.N)
			}
		}
	}
	return marked
}
