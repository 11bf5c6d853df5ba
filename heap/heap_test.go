package heap

import (
	"math"
	"reflect"
	"testing"

	"limewash/api"
)

// three objects: at 1 with the fields -3 and a reference to 5; at 5 with no field; at 7 with a reference to itself and no object.
func three() api.Heap {
	return api.Heap{Words: []int{0, 4, 2, -6, 11, 0, 0, 1, 2, 15, 1, 0, 0, 0}, Top: 11}
}

// broken: Top is not valid; everything else would be.
func broken() api.Heap {
	return api.Heap{Words: make([]int, 8), Top: 0}
}

func empty(words int) api.Heap { return api.Heap{Words: make([]int, words), Top: 1} }

func number(n int) api.Value { return api.Value{Kind: api.Number, N: n} }

func object(p int) api.Value { return api.Value{Kind: api.Object, N: p} }

func sameHeap(a, b api.Heap) bool {
	return a.Top == b.Top && sameInts(a.Words, b.Words)
}

func sameInts(a, b []int) bool {
	return len(a) == len(b) && (len(a) == 0 || reflect.DeepEqual(a, b))
}

func wantHeap(t *testing.T, what string, got, want api.Heap, err, wantErr api.Errno) {
	t.Helper()
	if !sameHeap(got, want) || err != wantErr {
		t.Errorf("%s: %v %v, want %v %v", what, got, err, want, wantErr)
	}
}

// P1.1
func TestNew(t *testing.T) {
	for _, words := range []int{1, 2, 17, api.MaxWords - 1, api.MaxWords} {
		h, err := New(words)
		wantHeap(t, "New", h, empty(words), err, api.OK)
		if Check(h) != api.OK {
			t.Errorf("New(%d) is not valid", words)
		}
	}
	for _, words := range []int{math.MinInt, -1, 0, api.MaxWords + 1, math.MaxInt} {
		h, err := New(words)
		wantHeap(t, "New", h, api.Heap{}, err, api.ErrRange)
	}
}

// P1.1
func TestNewIsNewEachTime(t *testing.T) {
	a, _ := New(4)
	a.Words[2] = 9
	b, _ := New(4)
	wantHeap(t, "second New", b, empty(4), api.OK, api.OK)
}

// P1.1: Copy has no error, so it takes heaps that are not valid, too.
func TestCopy(t *testing.T) {
	for _, h := range []api.Heap{
		three(), empty(1), empty(api.MaxWords), broken(), {}, {Top: -5},
		{Words: []int{}, Top: 3},
		{Words: []int{7, -1, math.MaxInt, math.MinInt}, Top: 99},
		{Words: make([]int, api.MaxWords+50), Top: 2},
	} {
		wantHeap(t, "Copy", Copy(h), h, api.OK, api.OK)
	}
}

// P1.4
func TestLoad(t *testing.T) {
	for _, c := range []struct {
		p, n int
		want api.Value
		err  api.Errno
	}{
		{1, 0, number(-3), api.OK},
		{1, 1, object(5), api.OK},
		{7, 0, object(7), api.OK},
		{7, 1, object(0), api.OK},
		{1, 2, api.Value{}, api.ErrNone},
		{1, -1, api.Value{}, api.ErrNone},
		{1, math.MaxInt, api.Value{}, api.ErrNone},
		{1, math.MinInt, api.Value{}, api.ErrNone},
		{5, 0, api.Value{}, api.ErrNone},
		{7, 2, api.Value{}, api.ErrNone},
		{0, 0, api.Value{}, api.ErrNone},
		{2, 0, api.Value{}, api.ErrNone},
		{3, 0, api.Value{}, api.ErrNone},
		{11, 0, api.Value{}, api.ErrNone},
		{14, 0, api.Value{}, api.ErrNone},
		{-1, 0, api.Value{}, api.ErrNone},
		{math.MaxInt, 0, api.Value{}, api.ErrNone},
		{math.MinInt, 0, api.Value{}, api.ErrNone},
	} {
		if v, err := Load(three(), c.p, c.n); v != c.want || err != c.err {
			t.Errorf("Load %d %d: %v %v, want %v %v", c.p, c.n, v, err, c.want, c.err)
		}
	}
}

// P1.4
func TestLoadExtremes(t *testing.T) {
	h := api.Heap{Words: []int{0, 0, 2, -2 * api.MaxNumber, 2 * api.MaxNumber}, Top: 5}
	for n, want := range []int{-api.MaxNumber, api.MaxNumber} {
		if v, err := Load(h, 1, n); v != number(want) || err != api.OK {
			t.Errorf("Load %d: %v %v, want %d", n, v, err, want)
		}
	}
}

// P1.4: exactly one word of the result differs from the argument.
func TestStore(t *testing.T) {
	for _, c := range []struct {
		p, n int
		v    api.Value
		word int
	}{
		{1, 0, number(21), 42},
		{1, 0, number(0), 0},
		{1, 1, number(api.MaxNumber), 2 * api.MaxNumber},
		{1, 1, number(-api.MaxNumber), -2 * api.MaxNumber},
		{1, 0, object(0), api.Nil},
		{1, 0, object(1), 3},
		{7, 1, object(5), 11},
		{7, 0, object(7), 15},
	} {
		want := three()
		want.Words[c.p+api.Head+c.n] = c.word
		got, err := Store(three(), c.p, c.n, c.v)
		wantHeap(t, "Store", got, want, err, api.OK)
		if v, err := Load(got, c.p, c.n); v != c.v || err != api.OK {
			t.Errorf("Load after Store: %v %v, want %v", v, err, c.v)
		}
	}
}

// P1.4: the errors, and where several apply, the first one of the order.
func TestStoreErrors(t *testing.T) {
	for _, c := range []struct {
		h    api.Heap
		p, n int
		v    api.Value
		err  api.Errno
	}{
		{broken(), 1, 0, number(1), api.ErrState},
		{broken(), -1, 9, api.Value{Kind: 2, N: math.MaxInt}, api.ErrState},
		{three(), 2, 0, number(1), api.ErrNone},
		{three(), 5, 0, number(1), api.ErrNone},
		{three(), 0, 0, number(1), api.ErrNone},
		{three(), 1, -1, number(1), api.ErrNone},
		{three(), 1, 2, number(1), api.ErrNone},
		{three(), 1, 2, api.Value{Kind: 2}, api.ErrNone},
		{three(), 2, 0, number(api.MaxNumber + 1), api.ErrNone},
		{three(), 1, 0, api.Value{Kind: 2, N: 1}, api.ErrKind},
		{three(), 1, 0, api.Value{Kind: -1, N: 1}, api.ErrKind},
		{three(), 1, 0, api.Value{Kind: math.MaxInt, N: math.MaxInt}, api.ErrKind},
		{three(), 1, 0, number(api.MaxNumber + 1), api.ErrRange},
		{three(), 1, 0, number(-api.MaxNumber - 1), api.ErrRange},
		{three(), 1, 0, number(math.MaxInt), api.ErrRange},
		{three(), 1, 0, number(math.MinInt), api.ErrRange},
		{three(), 1, 0, object(2), api.ErrNone},
		{three(), 1, 0, object(11), api.ErrNone},
		{three(), 1, 0, object(-1), api.ErrNone},
		{three(), 1, 0, object(math.MaxInt), api.ErrNone},
		{three(), 1, 0, object(math.MinInt), api.ErrNone},
		// Twice this number, in 64 bits, is twice the address 5.
		{three(), 1, 0, object(math.MinInt + 5), api.ErrNone},
	} {
		got, err := Store(c.h, c.p, c.n, c.v)
		wantHeap(t, "Store", got, api.Heap{}, err, c.err)
	}
}

// P1.3
func TestAlloc(t *testing.T) {
	for fields := 0; fields <= api.MaxFields; fields++ {
		h := three()
		h.Words = append(h.Words, 0, 0, 0, 0, 0)
		want := Copy(h)
		want.Words[12] = fields
		want.Top += api.Head + fields
		got, p, err := Alloc(h, fields)
		wantHeap(t, "Alloc", got, want, err, api.OK)
		if p != 11 || Check(got) != api.OK {
			t.Errorf("Alloc %d: at %d, Check %v", fields, p, Check(got))
		}
	}
}

// P1.3: a heap is filled to its last word, and then is full.
func TestAllocFills(t *testing.T) {
	h, _ := New(1 + 2*(api.Head+api.MaxFields) + api.Head)
	for i, c := range []struct{ fields, p int }{{api.MaxFields, 1}, {api.MaxFields, 9}, {0, 17}} {
		next, p, err := Alloc(h, c.fields)
		if p != c.p || err != api.OK {
			t.Fatalf("Alloc %d: %d %v, want %d", i, p, err, c.p)
		}
		h = next
	}
	if h.Top != len(h.Words) || Check(h) != api.OK {
		t.Errorf("not full or not valid: %v", h)
	}
	got, p, err := Alloc(h, 0)
	wantHeap(t, "Alloc", got, api.Heap{}, err, api.ErrSize)
	if p != 0 {
		t.Errorf("address %d beside an error", p)
	}
}

// P1.3: the errors, and where several apply, the first one of the order.
func TestAllocErrors(t *testing.T) {
	for _, c := range []struct {
		h      api.Heap
		fields int
		err    api.Errno
	}{
		{broken(), 0, api.ErrState},
		{broken(), -1, api.ErrState},
		{broken(), api.MaxFields + 1, api.ErrState},
		{empty(40), -1, api.ErrRange},
		{empty(40), api.MaxFields + 1, api.ErrRange},
		{empty(40), math.MaxInt, api.ErrRange},
		{empty(40), math.MinInt, api.ErrRange},
		{empty(1), -1, api.ErrRange},
		{empty(1), api.MaxFields + 1, api.ErrRange},
		{empty(1), 0, api.ErrSize},
		{empty(2), 0, api.ErrSize},
		{empty(3), 1, api.ErrSize},
		{empty(api.Head + api.MaxFields), api.MaxFields, api.ErrSize},
		{three(), 2, api.ErrSize},
	} {
		got, p, err := Alloc(c.h, c.fields)
		wantHeap(t, "Alloc", got, api.Heap{}, err, c.err)
		if p != 0 {
			t.Errorf("Alloc %v %d: address %d beside an error", c.h, c.fields, p)
		}
	}
}

// P1.5
func TestWord(t *testing.T) {
	for _, c := range []struct {
		v    api.Value
		want int
	}{
		{number(0), 0}, {number(1), 2}, {number(-1), -2}, {number(-3), -6},
		{number(api.MaxNumber), 2 * api.MaxNumber}, {number(-api.MaxNumber), -2 * api.MaxNumber},
		{number(math.MaxInt / 2), math.MaxInt - 1}, {number(math.MinInt / 2), math.MinInt},
		{object(0), api.Nil}, {object(4), 9}, {object(-4), -7}, {object(-1), -1},
		{object(math.MaxInt / 2), math.MaxInt}, {object(math.MinInt / 2), math.MinInt + 1},
		{api.Value{Kind: 2, N: 4}, 9}, {api.Value{Kind: -1, N: 4}, 9},
		{api.Value{Kind: math.MinInt, N: -4}, -7}, {api.Value{Kind: math.MaxInt}, 1},
	} {
		if got := Word(c.v); got != c.want {
			t.Errorf("Word %v: %d, want %d", c.v, got, c.want)
		}
	}
}

// P1.5
func TestOf(t *testing.T) {
	for _, c := range []struct {
		w    int
		want api.Value
	}{
		{0, number(0)}, {2, number(1)}, {-2, number(-1)}, {-6, number(-3)},
		{api.Nil, object(0)}, {9, object(4)}, {-1, object(-1)}, {-7, object(-4)},
		{math.MaxInt, object(math.MaxInt / 2)}, {math.MaxInt - 1, number(math.MaxInt / 2)},
		{math.MinInt, number(math.MinInt / 2)}, {math.MinInt + 1, object(math.MinInt / 2)},
	} {
		if got := Of(c.w); got != c.want {
			t.Errorf("Of %d: %v, want %v", c.w, got, c.want)
		}
		if got := Word(c.want); got != c.w {
			t.Errorf("Word %v: %d, want %d", c.want, got, c.w)
		}
	}
}

// P1.5: what does not fit into 64 bits is unspecified, but is no panic.
func TestWordBeyond64Bits(t *testing.T) {
	for _, n := range []int{math.MaxInt, math.MinInt, math.MaxInt/2 + 1, math.MinInt/2 - 1} {
		for kind := -1; kind <= 2; kind++ {
			Word(api.Value{Kind: kind, N: n})
		}
	}
}
