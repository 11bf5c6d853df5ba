package gc

import (
	"limewash/api"
	"limewash/heap"
)

// areInOrder: are these objects, each of them behind the one before?
func areInOrder(places, keep []int) bool {
	// No object has an address below 1.
	before := 0
	for _, p := range keep {
		if p <= before || !isPlace(places, p) {
			return false
		}
		before = p
	}
	return true
}

// plan where each object goes: to the end of the one before.
func plan(h api.Heap, keep []int) []api.Move {
	moves := make([]api.Move, 0, len(keep))
	top := 1
	for _, p := range keep {
		moves = append(moves, api.Move{From: p, To: top})
		top += api.Head + len(fields(h, p))
	}
	return moves
}

// move objects into a heap of their own; false if one of them refers to an object that does not move along.
func move(h api.Heap, moves []api.Move) (api.Heap, bool) {
	// The number of words is that of a valid heap: there is no error.
	moved, _ := heap.New(len(h.Words))
	// No object stays no object.
	places := map[int]int{0: 0}
	for _, m := range moves {
		places[m.From] = m.To
	}
	for _, m := range moves {
		size := api.Head + len(fields(h, m.From))
		copy(moved.Words[m.To:], h.Words[m.From:m.From+size])
		if !redirect(fields(moved, m.To), places) {
			return api.Heap{}, false
		}
		moved.Top = m.To + size
	}
	return moved, true
}

// redirect references to where their objects have gone; false if there is no such place.
func redirect(words []int, places map[int]int) bool {
	for i, w := range words {
		v := heap.Of(w)
		if v.Kind != api.Object {
			continue
		}
		to, ok := places[v.N]
		if !ok {
			return false
		}
		words[i] = heap.Word(api.Value{Kind: api.Object, N: to})
	}
	return true
}
