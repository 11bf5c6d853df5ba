package heap

import (
	"math"
	"testing"

	"limewash/api"
)

// P1.2: heaps that are valid, with the addresses of their objects.
func TestPlaces(t *testing.T) {
	most := empty(api.MaxWords)
	var all []int
	for p := 1; p+api.Head <= api.MaxWords; p += api.Head {
		all = append(all, p)
	}
	most.Top = 1 + api.Head*len(all)
	for _, c := range []struct {
		h    api.Heap
		want []int
	}{
		{empty(1), nil},
		{empty(2), nil},
		{empty(api.MaxWords), nil},
		{most, all},
		{three(), []int{1, 5, 7}},
		{api.Heap{Words: []int{0, 0, 0}, Top: 3}, []int{1}},
		{api.Heap{Words: []int{0, 0, 1, 9, 0, 0, 0, 0}, Top: 6}, []int{1, 4}},
		{api.Heap{Words: []int{0, 2 * api.MaxVersions, 0}, Top: 3}, []int{1}},
		{api.Heap{Words: []int{0, 0, 6, 1, 1, 1, 1, 1, 3, 0}, Top: 9}, []int{1}},
		{api.Heap{Words: []int{0, 0, 2, 2 * api.MaxNumber, -2 * api.MaxNumber}, Top: 5}, []int{1}},
		// Two objects that refer to each other.
		{api.Heap{Words: []int{0, 0, 1, 9, 0, 1, 3}, Top: 7}, []int{1, 4}},
		// No condition is named for the first word.
		{api.Heap{Words: []int{-5, 0, 0, 0}, Top: 3}, []int{1}},
	} {
		if got, err := Places(c.h); !sameInts(got, c.want) || err != api.OK {
			t.Errorf("Places %v: %v %v, want %v", c.h, got, err, c.want)
		}
		if err := Check(c.h); err != api.OK {
			t.Errorf("Check %v: %v", c.h, err)
		}
	}
}

func invalidHeaps() []api.Heap {
	beyond := empty(api.MaxWords + 1)
	return []api.Heap{
		// Words and Top.
		{}, {Top: 1}, {Words: []int{}, Top: 1}, beyond, broken(),
		{Words: []int{0, 0, 0}, Top: -1}, {Words: []int{0, 0, 0}, Top: 4},
		{Words: []int{0, 0, 0}, Top: math.MaxInt}, {Words: []int{0, 0, 0}, Top: math.MinInt},
		// States.
		{Words: []int{0, -1, 0}, Top: 3}, {Words: []int{0, 2*api.MaxVersions + 1, 0}, Top: 3},
		{Words: []int{0, math.MaxInt, 0}, Top: 3}, {Words: []int{0, math.MinInt, 0}, Top: 3},
		// Numbers of fields.
		{Words: []int{0, 0, -1, 0, 0}, Top: 3}, {Words: []int{0, 0, -2, 0, 0}, Top: 5},
		{Words: []int{0, 0, 7, 0, 0, 0, 0, 0, 0, 0}, Top: 10},
		{Words: []int{0, 0, math.MaxInt, 0}, Top: 4}, {Words: []int{0, 0, math.MinInt, 0}, Top: 4},
		// Objects that reach beyond Top.
		{Words: []int{0, 0}, Top: 2}, {Words: []int{0, 0, 0, 0}, Top: 2},
		{Words: []int{0, 0, 1, 0}, Top: 3}, {Words: []int{0, 0, 1}, Top: 3},
		{Words: []int{0, 0, 0, 0}, Top: 4}, {Words: []int{0, 0, 6, 0, 0, 0, 0, 0, 0}, Top: 8},
		// Numbers of fields' values.
		{Words: []int{0, 0, 1, 2*api.MaxNumber + 2}, Top: 4},
		{Words: []int{0, 0, 1, -2*api.MaxNumber - 2}, Top: 4},
		{Words: []int{0, 0, 1, math.MaxInt - 1}, Top: 4}, {Words: []int{0, 0, 1, math.MinInt}, Top: 4},
		// References.
		{Words: []int{0, 0, 1, 5}, Top: 4}, {Words: []int{0, 0, 1, 7}, Top: 4},
		{Words: []int{0, 0, 1, -1}, Top: 4}, {Words: []int{0, 0, 1, 9}, Top: 4},
		{Words: []int{0, 0, 1, 9, 0, 0}, Top: 4}, {Words: []int{0, 0, 1, 11, 0, 0}, Top: 6},
		{Words: []int{0, 0, 1, math.MaxInt}, Top: 4}, {Words: []int{0, 0, 1, math.MinInt + 1}, Top: 4},
		{Words: []int{0, 0, 2, 3, 2*api.MaxNumber + 1}, Top: 5},
		// Words from Top on.
		{Words: []int{0, 1}, Top: 1}, {Words: []int{0, 0, 0, 1}, Top: 3},
		{Words: []int{0, 0, 0, 0, 0, -1}, Top: 3},
	}
}

// P1.2: Check, and every function that returns its error first, whatever else is wrong.
func TestInvalidHeaps(t *testing.T) {
	for _, h := range invalidHeaps() {
		if err := Check(h); err != api.ErrState {
			t.Errorf("Check %v: %v", h, err)
		}
		if l, err := Places(h); len(l) != 0 || err != api.ErrState {
			t.Errorf("Places %v: %v %v", h, l, err)
		}
		for _, n := range []int{0, -1, api.MaxFields + 1} {
			got, p, err := Alloc(h, n)
			wantHeap(t, "Alloc", got, api.Heap{}, err, api.ErrState)
			if p != 0 {
				t.Errorf("Alloc %v: address %d beside an error", h, p)
			}
			for _, p := range []int{1, 0, -1} {
				if v, err := Load(h, p, n); v != (api.Value{}) || err != api.ErrState {
					t.Errorf("Load %v: %v %v", h, v, err)
				}
				got, err := Store(h, p, n, api.Value{Kind: n, N: math.MaxInt})
				wantHeap(t, "Store", got, api.Heap{}, err, api.ErrState)
			}
		}
	}
}

// validAt is P1.2 once more, written for words that are all small: which objects begin at p, or false.
func validAt(h api.Heap, p int) ([]int, bool) {
	if p == h.Top {
		return nil, true
	}
	if p+1 >= h.Top || h.Words[p] < 0 || h.Words[p+1] < 0 || h.Words[p+1] > api.MaxFields {
		return nil, false
	}
	end := p + 2 + h.Words[p+1]
	if end > h.Top {
		return nil, false
	}
	rest, ok := validAt(h, end)
	return append([]int{p}, rest...), ok
}

func validSmall(h api.Heap) ([]int, bool) {
	places, ok := validAt(h, 1)
	if !ok {
		return nil, false
	}
	words := map[int]bool{api.Nil: true}
	for _, p := range places {
		words[2*p+1] = true
	}
	for _, p := range places {
		for _, w := range h.Words[p+2 : p+2+h.Words[p+1]] {
			if w%2 != 0 && !words[w] {
				return nil, false
			}
		}
	}
	for _, w := range h.Words[h.Top:] {
		if w != 0 {
			return nil, false
		}
	}
	return places, true
}

// P1.2: all heaps of up to 7 words from a few, with every Top.
func TestCheckAllSmallHeaps(t *testing.T) {
	choices := []int{0, 1, 2, 3, 7, 9, -1, -2}
	valid := 0
	for size, limit := 1, 1; size <= 7; size, limit = size+1, limit*len(choices) {
		for code := range limit {
			h := empty(size)
			for i, c := 1, code; i < size; i, c = i+1, c/len(choices) {
				h.Words[i] = choices[c%len(choices)]
			}
			for h.Top = 1; h.Top <= size; h.Top++ {
				want, ok := validSmall(h)
				got, err := Places(h)
				if ok != (err == api.OK) || err != Check(h) || !sameInts(got, want) {
					t.Fatalf("%v: %v %v, want %v %v", h, got, err, want, ok)
				}
				if ok {
					valid++
				}
			}
		}
	}
	if valid < 100 {
		t.Errorf("only %d heaps were valid", valid)
	}
}
