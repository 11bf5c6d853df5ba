package gc

import (
	"math"
	"slices"
	"testing"

	"limewash/api"
)

// four objects: at 1 with the number 4 and a reference to 5; at 5 with a reference to 8; at 8 without fields; at 10 with a reference to 1, no object and the number -4.
// Each state is different, and none of them is 0. The words for the numbers 4 and -4 are 8 and -8, close to those of addresses.
func four() api.Heap {
	return api.Heap{Words: []int{0, 2, 2, 8, 11, 3, 1, 17, 5, 0, 7, 3, 3, 1, -8, 0, 0, 0}, Top: 15}
}

// circle: the objects at 1, 4 and 7 refer to each other in a circle; the one at 10 refers to itself; the one at 13 to 1 and 10; the one at 17 to nothing.
func circle() api.Heap {
	return api.Heap{Words: []int{0, 0, 1, 9, 0, 1, 15, 0, 1, 3, 0, 1, 21, 0, 2, 3, 21, 0, 0}, Top: 19}
}

func empty(words int) api.Heap { return api.Heap{Words: make([]int, words), Top: 1} }

// broken heaps, each in a different way.
func broken() []api.Heap {
	tail, lost, long := four(), four(), empty(api.MaxWords+1)
	tail.Words[16] = 1
	lost.Words[4] = 2*7 + 1
	return []api.Heap{
		{}, {Top: 1}, long, tail, lost,
		{Words: []int{0, 0, 0}, Top: 0},
		{Words: []int{0, 0, 0}, Top: 4},
		{Words: []int{0, 0, 0, 0}, Top: 2},
		{Words: []int{0, -1, 0}, Top: 3},
		{Words: []int{0, 0, -1, 0}, Top: 3},
		{Words: []int{0, 0, math.MaxInt, 0}, Top: 3},
		{Words: []int{0, 0, 1, 2*api.MaxNumber + 2}, Top: 4},
	}
}

func wantReach(t *testing.T, h api.Heap, roots, want []int, wantErr api.Errno) {
	t.Helper()
	got, err := Reach(h, roots)
	if !slices.Equal(got, want) || err != wantErr {
		t.Errorf("Reach %v from %v: %v %v, want %v %v", h, roots, got, err, want, wantErr)
	}
}

// P2.1
func TestReach(t *testing.T) {
	for _, c := range []struct {
		h           api.Heap
		roots, want []int
	}{
		{four(), []int{8}, []int{8}},
		{four(), []int{5}, []int{5, 8}},
		{four(), []int{1}, []int{1, 5, 8}},
		{four(), []int{10}, []int{1, 5, 8, 10}},
		{four(), []int{8, 5}, []int{5, 8}},
		{four(), []int{10, 8}, []int{1, 5, 8, 10}},
		{circle(), []int{17}, []int{17}},
		{circle(), []int{17, 10}, []int{10, 17}},
		{circle(), []int{13}, []int{1, 4, 7, 10, 13}},
		{circle(), []int{17, 13, 10, 7, 4, 1}, []int{1, 4, 7, 10, 13, 17}},
	} {
		wantReach(t, c.h, c.roots, c.want, api.OK)
	}
}

// P2.1: a root 0 is no object.
func TestReachFromNothing(t *testing.T) {
	for _, h := range []api.Heap{four(), circle(), empty(1), empty(api.MaxWords)} {
		wantReach(t, h, nil, nil, api.OK)
		wantReach(t, h, []int{}, nil, api.OK)
		wantReach(t, h, []int{0}, nil, api.OK)
		wantReach(t, h, []int{0, 0}, nil, api.OK)
	}
	wantReach(t, four(), []int{0, 5}, []int{5, 8}, api.OK)
	wantReach(t, four(), []int{5, 0, 8}, []int{5, 8}, api.OK)
}

// P2.1: each object occurs once, however often it is a root.
func TestReachFromSameRoots(t *testing.T) {
	wantReach(t, four(), []int{5, 5}, []int{5, 8}, api.OK)
	wantReach(t, four(), []int{8, 5, 8, 0, 5, 8}, []int{5, 8}, api.OK)
	wantReach(t, four(), slices.Repeat([]int{1, 8}, 10*api.MaxWords), []int{1, 5, 8}, api.OK)
}

// P2.1: references in a circle.
func TestReachInCircle(t *testing.T) {
	for _, root := range []int{1, 4, 7} {
		wantReach(t, circle(), []int{root}, []int{1, 4, 7}, api.OK)
	}
	wantReach(t, circle(), []int{10}, []int{10}, api.OK)
}

// P2.1: a number is no reference, even if its word is an object's address or the double of one.
func TestReachIgnoresNumbers(t *testing.T) {
	for _, n := range []int{1, 4, 2, 8, -4, -1} {
		h := api.Heap{Words: []int{0, 0, 1, 2 * n, 0, 0}, Top: 6}
		wantReach(t, h, []int{1}, []int{1}, api.OK)
	}
	// Nor are the state and the number of fields.
	h := api.Heap{Words: []int{0, 9, 1, 0, 9, 0}, Top: 6}
	wantReach(t, h, []int{1}, []int{1}, api.OK)
}

// P2.1: each of the fields counts.
func TestReachThroughEachField(t *testing.T) {
	for n := range api.MaxFields {
		h := empty(20)
		h.Top = 11
		h.Words[2] = api.MaxFields
		h.Words[api.Head+1+n] = 2*9 + 1
		wantReach(t, h, []int{1}, []int{1, 9}, api.OK)
	}
}

// chain of as many objects with one field as there can be; each refers to the next one, or to the one before.
func chain(back bool) (api.Heap, []int) {
	h := empty(api.MaxWords)
	var places []int
	for p := 1; p+3 <= api.MaxWords; p += 3 {
		places = append(places, p)
		h.Words[p+1] = 1
		h.Words[p+2] = 2*(p+3) + 1
		if back {
			h.Words[p+2] = 2*max(p-3, 0) + 1
		}
		h.Top = p + 3
	}
	if !back {
		h.Words[h.Top-1] = api.Nil
	}
	return h, places
}

// P2.1
func TestReachLongChain(t *testing.T) {
	h, places := chain(false)
	for i, p := range places {
		wantReach(t, h, []int{p}, places[i:], api.OK)
	}
	h, places = chain(true)
	for i, p := range places {
		wantReach(t, h, []int{p}, places[:i+1], api.OK)
	}
}

// P2.1: a root that is no object's address.
func TestReachErrNone(t *testing.T) {
	for _, p := range []int{-1, 2, 3, 4, 6, 9, 11, 14, 15, 16, 17, 18, -5, 399, 400, math.MinInt, math.MaxInt} {
		wantReach(t, four(), []int{p}, nil, api.ErrNone)
		wantReach(t, four(), []int{1, 0, p}, nil, api.ErrNone)
		wantReach(t, four(), []int{p, 1}, nil, api.ErrNone)
	}
	wantReach(t, empty(1), []int{1}, nil, api.ErrNone)
	wantReach(t, empty(5), []int{0, 1}, nil, api.ErrNone)
}

// P2.1: the error of heap.Check comes first.
func TestReachErrState(t *testing.T) {
	for _, h := range broken() {
		wantReach(t, h, nil, nil, api.ErrState)
		wantReach(t, h, []int{1}, nil, api.ErrState)
		wantReach(t, h, []int{2}, nil, api.ErrState)
		wantReach(t, h, []int{-1, math.MaxInt}, nil, api.ErrState)
	}
}
