package gc

import (
	"math/rand"
	"slices"
	"testing"

	"limewash/api"
	"limewash/heap"
)

// randomHeap of up to so many objects, made with the functions of package heap; the states are all different.
func randomHeap(r *rand.Rand, objects int) (api.Heap, []int) {
	h, _ := heap.New(1 + r.Intn(api.MaxWords))
	for range objects {
		if grown, _, err := heap.Alloc(h, r.Intn(api.MaxFields+1)); err == api.OK {
			h = grown
		}
	}
	places, _ := heap.Places(h)
	for i, p := range places {
		h.Words[p] = i + 1
		for n := range h.Words[p+1] {
			h, _ = heap.Store(h, p, n, randomValue(r, places))
		}
	}
	return h, places
}

// randomValue: mostly a number, so that not everything is reached.
func randomValue(r *rand.Rand, places []int) api.Value {
	switch r.Intn(6) {
	case 0:
		return api.Value{Kind: api.Object, N: places[r.Intn(len(places))]}
	case 1:
		return api.Value{Kind: api.Object}
	}
	return api.Value{Kind: api.Number, N: r.Intn(101) - 50}
}

func some(r *rand.Rand, l []int) []int {
	var out []int
	for _, x := range l {
		if r.Intn(4) == 0 {
			out = append(out, x)
		}
	}
	return out
}

// reachSlowly follows fields again and again, until nothing is new.
func reachSlowly(h api.Heap, places, roots []int) []int {
	reached := slices.Clone(roots)
	for before := -1; before != len(reached); {
		before = len(reached)
		for _, p := range places {
			for n := range h.Words[p+1] {
				v, _ := heap.Load(h, p, n)
				if v.Kind == api.Object && v.N != 0 && slices.Contains(reached, p) && !slices.Contains(reached, v.N) {
					reached = append(reached, v.N)
				}
			}
		}
	}
	slices.Sort(reached)
	return reached
}

// isClosed: do the objects refer only to each other?
func isClosed(h api.Heap, keep []int) bool {
	for _, p := range keep {
		for n := range h.Words[p+1] {
			v, _ := heap.Load(h, p, n)
			if v.Kind == api.Object && v.N != 0 && !slices.Contains(keep, v.N) {
				return false
			}
		}
	}
	return true
}

// checkMoved compares each object with what became of it, through package heap alone.
func checkMoved(t *testing.T, h, moved api.Heap, keep []int, moves []api.Move) {
	t.Helper()
	places, err := heap.Places(moved)
	if err != api.OK || len(moved.Words) != len(h.Words) || len(places) != len(keep) || len(moves) != len(keep) {
		t.Fatalf("%v keeping %v: %v %v %v", h, keep, moved, moves, err)
	}
	to := map[int]int{0: 0}
	for i, p := range keep {
		if moves[i] != (api.Move{From: p, To: places[i]}) {
			t.Fatalf("%v keeping %v: %v", h, keep, moves)
		}
		to[p] = places[i]
	}
	for i, p := range keep {
		q := places[i]
		if h.Words[p] != moved.Words[q] || h.Words[p+1] != moved.Words[q+1] {
			t.Fatalf("%v keeping %v: %v", h, keep, moved)
		}
		for n := range h.Words[p+1] {
			v, _ := heap.Load(h, p, n)
			got, _ := heap.Load(moved, q, n)
			if v.Kind == api.Object {
				v.N = to[v.N]
			}
			if got != v {
				t.Fatalf("%v keeping %v: field %d at %d is %v, want %v", h, keep, n, q, got, v)
			}
		}
	}
}

// P2.1 and P2.2, against slow ways to the same results. The seed is fixed: each run is the same.
func TestRandomHeaps(t *testing.T) {
	r := rand.New(rand.NewSource(1))
	closed := 0
	for range 400 {
		h, places := randomHeap(r, r.Intn(40))
		roots := some(r, places)
		want := reachSlowly(h, places, roots)
		r.Shuffle(len(roots), func(i, j int) { roots[i], roots[j] = roots[j], roots[i] })
		keep, err := Reach(h, append(roots, 0))
		if !slices.Equal(keep, want) || err != api.OK {
			t.Fatalf("Reach %v from %v: %v %v, want %v", h, roots, keep, err, want)
		}
		moved, moves, err := Compact(h, keep)
		if err != api.OK {
			t.Fatalf("Compact %v keeping %v: %v", h, keep, err)
		}
		checkMoved(t, h, moved, keep, moves)

		keep = some(r, places)
		moved, moves, err = Compact(h, keep)
		if isClosed(h, keep) {
			closed++
			checkMoved(t, h, moved, keep, moves)
		} else if err != api.ErrState || len(moved.Words) != 0 || moved.Top != 0 || len(moves) != 0 {
			t.Fatalf("Compact %v keeping %v: %v %v %v, want ErrState alone", h, keep, moved, moves, err)
		}
	}
	if closed == 0 || closed == 400 {
		t.Errorf("%d of 400 lists to keep were closed: the test shows too little", closed)
	}
}
