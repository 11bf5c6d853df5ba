package heap

import (
	"testing"

	"limewash/api"
)

// spare is the heap three within a longer array, so that writes behind its words can be seen.
func spare() (api.Heap, []int) {
	h := three()
	whole := append(Copy(h).Words, 71, 72, 73, 74, 75, 76, 77, 78)
	return api.Heap{Words: whole[:len(h.Words)], Top: h.Top}, whole
}

// scribble over a list and its unused capacity.
func scribble(l []int) {
	l = l[:cap(l)]
	for i := range l {
		l[i] = -99
	}
}

// The general rule Memory, for P1.1 to P1.4: arguments are neither changed nor shared with results.
func TestArgumentsStay(t *testing.T) {
	calls := map[string]func(h api.Heap) []int{
		"Copy":   func(h api.Heap) []int { return Copy(h).Words },
		"Check":  func(h api.Heap) []int { Check(h); return nil },
		"Places": func(h api.Heap) []int { l, _ := Places(h); return l },
		"Alloc":  func(h api.Heap) []int { g, _, _ := Alloc(h, 1); return g.Words },
		"Load":   func(h api.Heap) []int { Load(h, 1, 0); return nil },
		"Store":  func(h api.Heap) []int { g, _ := Store(h, 1, 0, number(5)); return g.Words },
		// The same value as before is no reason to return the argument.
		"Store the same": func(h api.Heap) []int { g, _ := Store(h, 1, 0, number(-3)); return g.Words },
		// There is no room, though the capacity has some.
		"Alloc too much": func(h api.Heap) []int { g, _, _ := Alloc(h, 2); return g.Words },
	}
	for name, call := range calls {
		h, whole := spare()
		before := append([]int{}, whole...)
		scribble(call(h))
		if !sameInts(whole, before) {
			t.Errorf("%s: the argument became %v, was %v", name, whole, before)
		}
	}
}

// The general rule Memory: a result does not follow later changes of the argument.
func TestResultsStay(t *testing.T) {
	h, whole := spare()
	copied := Copy(h)
	places, _ := Places(h)
	grown, _, _ := Alloc(h, 1)
	changed, _ := Store(h, 1, 0, number(5))
	scribble(whole)
	wantHeap(t, "Copy", copied, three(), api.OK, api.OK)
	if !sameInts(places, []int{1, 5, 7}) {
		t.Errorf("Places: %v", places)
	}
	wantGrown, _, _ := Alloc(three(), 1)
	wantHeap(t, "Alloc", grown, wantGrown, api.OK, api.OK)
	wantChanged, _ := Store(three(), 1, 0, number(5))
	wantHeap(t, "Store", changed, wantChanged, api.OK, api.OK)
}

// The general rule Determinism: the same arguments, the same results, whatever was called before.
func TestNoStateBetweenCalls(t *testing.T) {
	first, p, _ := Alloc(three(), 1)
	scribble(first.Words)
	second, q, err := Alloc(three(), 1)
	want := three()
	want.Words[12], want.Top = 1, 14
	wantHeap(t, "second Alloc", second, want, err, api.OK)
	if p != q {
		t.Errorf("addresses %d and %d", p, q)
	}
}

// P1.3: words are those of the list; its unused capacity is no room for objects.
func TestAllocIgnoresCapacity(t *testing.T) {
	h, _ := spare()
	got, _, err := Alloc(h, 2)
	wantHeap(t, "Alloc", got, api.Heap{}, err, api.ErrSize)
}
