package gc

import (
	"slices"
	"testing"

	"limewash/api"
)

// spare is a heap and a list within longer arrays, so that writes behind them can be seen.
type spare struct {
	words, list []int // the whole arrays
	h           api.Heap
	l           []int
}

func newSpare(l ...int) spare {
	h := four()
	words := append(h.Words, 71, 72, 73, 74, 75, 76)
	list := append(l, 81, 82, 83, 84)
	return spare{words: words, list: list, h: api.Heap{Words: words[:len(h.Words)], Top: h.Top}, l: list[:len(l)]}
}

// scribble over a list and its unused capacity.
func scribble[E any](l []E, with E) {
	l = l[:cap(l)]
	for i := range l {
		l[i] = with
	}
}

// The general rule Memory, for P2.1 and P2.2: arguments are neither changed nor shared with results.
func TestArgumentsStay(t *testing.T) {
	for name, call := range map[string]func(api.Heap, []int){
		"Reach": func(h api.Heap, l []int) {
			got, _ := Reach(h, l)
			scribble(got, -99)
		},
		"Compact": func(h api.Heap, l []int) {
			got, moves, _ := Compact(h, l)
			scribble(got.Words, -99)
			scribble(moves, api.Move{From: -99, To: -99})
		},
	} {
		// In order, in no order, all objects, no object, and a reference to an object that is not there.
		for _, l := range [][]int{{5, 8}, {8, 5}, {1, 5, 8, 10}, {}, {1}, {2}} {
			s := newSpare(l...)
			words, list := slices.Clone(s.words), slices.Clone(s.list)
			call(s.h, s.l)
			if !slices.Equal(s.words, words) || !slices.Equal(s.list, list) {
				t.Errorf("%s %v: the arguments became %v %v, were %v %v", name, l, s.words, s.list, words, list)
			}
		}
	}
}

// The general rule Memory: a result does not follow later changes of the arguments.
func TestResultsStay(t *testing.T) {
	s := newSpare(1, 5, 8, 10)
	reached, _ := Reach(s.h, s.l)
	got, moves, _ := Compact(s.h, s.l)
	scribble(s.words, -99)
	scribble(s.list, -99)
	if !slices.Equal(reached, []int{1, 5, 8, 10}) {
		t.Errorf("Reach: %v", reached)
	}
	if !sameHeap(got, four()) {
		t.Errorf("Compact: %v", got)
	}
	if !slices.Equal(moves, []api.Move{{From: 1, To: 1}, {From: 5, To: 5}, {From: 8, To: 8}, {From: 10, To: 10}}) {
		t.Errorf("Compact: %v", moves)
	}
}

// The general rule Determinism: the same arguments, the same results, whatever was called before.
func TestNoStateBetweenCalls(t *testing.T) {
	for range 20 {
		reached, _ := Reach(circle(), []int{17, 13})
		if !slices.Equal(reached, []int{1, 4, 7, 10, 13, 17}) {
			t.Fatalf("Reach: %v", reached)
		}
		scribble(reached, -99)
		got, moves, _ := Compact(four(), []int{5, 8})
		if !slices.Equal(got.Words[:got.Top], []int{0, 3, 1, 9, 5, 0}) || !slices.Equal(moves, []api.Move{{From: 5, To: 1}, {From: 8, To: 4}}) {
			t.Fatalf("Compact: %v %v", got, moves)
		}
		scribble(got.Words, -99)
		scribble(moves, api.Move{From: -99, To: -99})
	}
}
