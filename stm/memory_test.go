package stm

import (
	"slices"
	"testing"

	"limewash/api"
)

// busyScript has all kinds of acts, and ends with a transaction and a collection that are open.
func busyScript() []api.Act {
	return acts(join(chain(3), []line{transfer(1, 0, 0, 0)}, whole(0), []line{
		begin(1), get(1, 1, 0, 0), put(1, 1, 0, 0), same(1, 0, 1), abort(1),
		begin(0), get(0, 1, 0, 0), set(0, 2, 6), put(0, 0, 0, 2), stat(9, false), collect(), step(1),
	}))
}

// scribble over a list and its unused capacity.
func scribble[E any](l []E, with E) {
	l = l[:cap(l)]
	for i := range l {
		l[i] = with
	}
}

// The general rule Memory: the list of acts stays as it is, with what lies behind it, and results are not part of it.
func TestArgumentStays(t *testing.T) {
	length := len(busyScript())
	list := append(busyScript(), api.Act{Kind: 71}, api.Act{Kind: 72})
	before := slices.Clone(list)
	answers, h, _ := Run(30, list[:length])
	scribble(answers, api.Answer{Code: 99})
	scribble(h.Words, -99)
	if !slices.Equal(list, before) {
		t.Errorf("the acts became %v, were %v", list, before)
	}
}

// The general rules Memory and Determinism: the same arguments, the same results, whatever was called before and becomes of it.
func TestNoStateBetweenRuns(t *testing.T) {
	first, h, _ := Run(30, busyScript())
	wantAnswers, wantWords := slices.Clone(first), slices.Clone(h.Words)
	for range 20 {
		scribble(first, api.Answer{Code: 99})
		scribble(h.Words, -99)
		var err api.Errno
		first, h, err = Run(30, busyScript())
		if !slices.Equal(first, wantAnswers) || !slices.Equal(h.Words, wantWords) || h.Top != 10 || err != api.OK {
			t.Fatalf("%v %v %v, want %v %v", first, h, err, wantAnswers, wantWords)
		}
	}
}

// The general rule Determinism: many objects that are recorded and owned, in no order that shows.
func TestOrderDoesNotShow(t *testing.T) {
	lines := chain(30)
	lines = append(lines, begin(0), set(0, 2, 1))
	for range 29 {
		lines = append(lines, get(0, 1, 0, 0), put(0, 0, 0, 2), transfer(0, 0, 0, 1))
	}
	lines = join(lines, whole(0), []line{abort(0)}, whole(0))
	for range 20 {
		h := play(t, 100, lines...)
		if h.Top != 91 || h.Words[3] != 0 || h.Words[90] != 2*85+1 {
			t.Fatalf("the heap is %v", h)
		}
	}
}
