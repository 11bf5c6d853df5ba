package gc

import (
	"math"
	"slices"
	"testing"

	"limewash/api"
	"limewash/heap"
)

func sameHeap(a, b api.Heap) bool { return a.Top == b.Top && slices.Equal(a.Words, b.Words) }

func wantCompact(t *testing.T, h api.Heap, keep []int, want api.Heap, wantMoves []api.Move) {
	t.Helper()
	got, moves, err := Compact(h, keep)
	if !sameHeap(got, want) || !slices.Equal(moves, wantMoves) || err != api.OK {
		t.Errorf("Compact %v keeping %v: %v %v %v, want %v %v", h, keep, got, moves, err, want, wantMoves)
	}
	if heap.Check(got) != api.OK {
		t.Errorf("Compact %v keeping %v: %v is not valid", h, keep, got)
	}
}

// wantRefused: the error, and nothing beside it.
func wantRefused(t *testing.T, h api.Heap, keep []int, want api.Errno) {
	t.Helper()
	got, moves, err := Compact(h, keep)
	if len(got.Words) != 0 || got.Top != 0 || len(moves) != 0 || err != want {
		t.Errorf("Compact %v keeping %v: %v %v %v, want %v alone", h, keep, got, moves, err, want)
	}
}

// P2.2
func TestCompact(t *testing.T) {
	for _, c := range []struct {
		keep  []int
		want  api.Heap
		moves []api.Move
	}{
		{[]int{8}, api.Heap{Words: []int{0, 5, 0, 0, 0, 0, 0, 0, 0, 0, 0, 0, 0, 0, 0, 0, 0, 0}, Top: 3},
			[]api.Move{{From: 8, To: 1}}},
		{[]int{5, 8}, api.Heap{Words: []int{0, 3, 1, 9, 5, 0, 0, 0, 0, 0, 0, 0, 0, 0, 0, 0, 0, 0}, Top: 6},
			[]api.Move{{From: 5, To: 1}, {From: 8, To: 4}}},
		{[]int{1, 5, 8}, api.Heap{Words: []int{0, 2, 2, 8, 11, 3, 1, 17, 5, 0, 0, 0, 0, 0, 0, 0, 0, 0}, Top: 10},
			[]api.Move{{From: 1, To: 1}, {From: 5, To: 5}, {From: 8, To: 8}}},
		{[]int{1, 5, 8, 10}, four(),
			[]api.Move{{From: 1, To: 1}, {From: 5, To: 5}, {From: 8, To: 8}, {From: 10, To: 10}}},
	} {
		wantCompact(t, four(), c.keep, c.want, c.moves)
	}
}

// P2.2: references in a circle, to an object itself, forwards and backwards.
func TestCompactCircle(t *testing.T) {
	wantCompact(t, circle(), []int{10, 17},
		api.Heap{Words: []int{0, 0, 1, 3, 0, 0, 0, 0, 0, 0, 0, 0, 0, 0, 0, 0, 0, 0, 0}, Top: 6},
		[]api.Move{{From: 10, To: 1}, {From: 17, To: 4}})
	wantCompact(t, circle(), []int{1, 4, 7},
		api.Heap{Words: []int{0, 0, 1, 9, 0, 1, 15, 0, 1, 3, 0, 0, 0, 0, 0, 0, 0, 0, 0}, Top: 10},
		[]api.Move{{From: 1, To: 1}, {From: 4, To: 4}, {From: 7, To: 7}})
	// Two objects at 4 and 9 that refer to each other, behind one at 1, and with another one in between at 7.
	h := api.Heap{Words: []int{0, 0, 1, 0, 6, 1, 19, 0, 0, 8, 2, 19, 9}, Top: 13}
	wantCompact(t, h, []int{4, 9},
		api.Heap{Words: []int{0, 6, 1, 9, 8, 2, 9, 3, 0, 0, 0, 0, 0}, Top: 8},
		[]api.Move{{From: 4, To: 1}, {From: 9, To: 4}})
}

// P2.2: an empty list to keep.
func TestCompactNothing(t *testing.T) {
	for _, h := range []api.Heap{four(), circle(), empty(1), empty(2), empty(api.MaxWords)} {
		wantCompact(t, h, nil, empty(len(h.Words)), nil)
		wantCompact(t, h, []int{}, empty(len(h.Words)), nil)
	}
}

// P2.2: numbers and states stay, up to their limits; no object stays no object.
func TestCompactKeepsValues(t *testing.T) {
	h := api.Heap{Words: []int{
		0, 0, 0,
		2 * api.MaxVersions, 6, 2 * api.MaxNumber, -2 * api.MaxNumber, 1, 6, -6, 2,
	}, Top: 11}
	wantCompact(t, h, []int{3}, api.Heap{Words: []int{
		0, 2 * api.MaxVersions, 6, 2 * api.MaxNumber, -2 * api.MaxNumber, 1, 6, -6, 2, 0, 0,
	}, Top: 9}, []api.Move{{From: 3, To: 1}})
}

// P2.2: the result contains only the objects: nothing of word 0.
func TestCompactClearsFirstWord(t *testing.T) {
	h := four()
	h.Words[0] = 77
	wantCompact(t, h, []int{1, 5, 8, 10}, four(),
		[]api.Move{{From: 1, To: 1}, {From: 5, To: 5}, {From: 8, To: 8}, {From: 10, To: 10}})
}

// P2.2: a full heap of as many words as there may be.
func TestCompactLongChain(t *testing.T) {
	h, places := chain(false)
	for i := range places {
		want := empty(api.MaxWords)
		want.Top = h.Top - 3*i
		var moves []api.Move
		for j, p := range places[i:] {
			to := places[j]
			moves = append(moves, api.Move{From: p, To: to})
			want.Words[to+1] = 1
			want.Words[to+2] = 2*(to+3) + 1
		}
		want.Words[want.Top-1] = api.Nil
		wantCompact(t, h, places[i:], want, moves)
	}
}

// P2.2: the error of heap.Check comes first.
func TestCompactErrState(t *testing.T) {
	for _, h := range broken() {
		wantRefused(t, h, nil, api.ErrState)
		wantRefused(t, h, []int{1}, api.ErrState)
		wantRefused(t, h, []int{2}, api.ErrState)
		wantRefused(t, h, []int{5, 1}, api.ErrState)
	}
}

// P2.2: an address to keep that is no object's address.
func TestCompactErrNone(t *testing.T) {
	for _, p := range []int{-1, 0, 2, 3, 4, 6, 7, 9, 11, 14, 15, 16, 18, 400, math.MinInt, math.MaxInt} {
		wantRefused(t, four(), []int{p}, api.ErrNone)
		keep := []int{1, 5, 8, 10, p}
		wantRefused(t, four(), keep, api.ErrNone)
		slices.Sort(keep)
		wantRefused(t, four(), keep, api.ErrNone)
	}
	wantRefused(t, empty(1), []int{1}, api.ErrNone)
	wantRefused(t, empty(1), []int{0}, api.ErrNone)
	wantRefused(t, empty(api.MaxWords), []int{1}, api.ErrNone)
}

// P2.2: addresses that are not in strictly increasing order.
func TestCompactErrNoneForOrder(t *testing.T) {
	for _, keep := range [][]int{
		{8, 8}, {8, 5}, {5, 8, 8}, {5, 5, 8}, {1, 8, 5}, {10, 1, 5, 8}, {5, 8, 1, 10},
		{1, 5, 8, 10, 10}, {1, 5, 8, 10, 1},
		slices.Repeat([]int{8}, 10*api.MaxWords),
	} {
		wantRefused(t, four(), keep, api.ErrNone)
	}
}

// P2.2: a field of a kept object that refers to an object that is not kept.
func TestCompactErrStateForReference(t *testing.T) {
	for _, keep := range [][]int{{1}, {5}, {10}, {1, 5}, {1, 8}, {5, 10}, {8, 10}, {1, 5, 10}, {1, 8, 10}, {5, 8, 10}} {
		wantRefused(t, four(), keep, api.ErrState)
	}
	for _, keep := range [][]int{{1, 4}, {4, 7}, {7}, {13}, {10, 13}, {1, 4, 7, 13, 17}, {1, 10, 17}} {
		wantRefused(t, circle(), keep, api.ErrState)
	}
	// The reference is the last one of six fields, of the last object.
	h := empty(20)
	h.Top = 13
	h.Words[6], h.Words[12] = api.MaxFields, 3
	wantRefused(t, h, []int{3, 5}, api.ErrState)
}

// P2.2: ErrNone comes before ErrState for a reference.
func TestCompactErrorOrder(t *testing.T) {
	for _, keep := range [][]int{{1, 2}, {5, 1}, {10, 10}, {0, 10}, {5, 18}} {
		wantRefused(t, four(), keep, api.ErrNone)
	}
}
