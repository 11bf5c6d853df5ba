// Package heap: objects in words, one behind the other.
package heap

import "limewash/api"

// New heap of so many words.
func New(words int) (api.Heap, api.Errno) {
	if words < 1 || words > api.MaxWords {
		return api.Heap{}, api.ErrRange
	}
	return api.Heap{Words: make([]int, words), Top: 1}, api.OK
}

// Copy of a heap, in memory of its own.
func Copy(h api.Heap) api.Heap {
	words := make([]int, len(h.Words))
	copy(words, h.Words)
	return api.Heap{Words: words, Top: h.Top}
}

// Word of a value.
func Word(v api.Value) int {
	if v.Kind == api.Number {
		return 2 * v.N
	}
	return 2*v.N + 1
}

// Of a word: the value.
func Of(w int) api.Value {
	// A shift rounds down; a division would round a negative odd word up.
	half := w >> 1
	if isReference(w) {
		return api.Value{Kind: api.Object, N: half}
	}
	return api.Value{Kind: api.Number, N: half}
}

// Check a heap.
func Check(h api.Heap) api.Errno {
	_, err := Places(h)
	return err
}

// Places of all objects of a heap.
func Places(h api.Heap) ([]int, api.Errno) {
	if !sizesValid(h) {
		return nil, api.ErrState
	}
	places, ok := walk(h)
	if !ok || !fieldsValid(h, places) || !restZero(h) {
		return nil, api.ErrState
	}
	return places, api.OK
}

// Alloc an object of so many fields, all 0: its place.
func Alloc(h api.Heap, fields int) (api.Heap, int, api.Errno) {
	if err := Check(h); err != api.OK {
		return api.Heap{}, 0, err
	}
	if fields < 0 || fields > api.MaxFields {
		return api.Heap{}, 0, api.ErrRange
	}
	if api.Head+fields > len(h.Words)-h.Top {
		return api.Heap{}, 0, api.ErrSize
	}
	// The state and the fields are 0 already: all words from Top on are.
	grown := Copy(h)
	grown.Words[h.Top+1] = fields
	grown.Top += api.Head + fields
	return grown, h.Top, api.OK
}

// Load a field of an object.
func Load(h api.Heap, p, n int) (api.Value, api.Errno) {
	places, err := Places(h)
	if err != api.OK {
		return api.Value{}, err
	}
	if !hasField(h, places, p, n) {
		return api.Value{}, api.ErrNone
	}
	return Of(h.Words[p+api.Head+n]), api.OK
}

// Store a field of an object.
func Store(h api.Heap, p, n int, v api.Value) (api.Heap, api.Errno) {
	places, err := Places(h)
	if err != api.OK {
		return api.Heap{}, err
	}
	if !hasField(h, places, p, n) {
		return api.Heap{}, api.ErrNone
	}
	if err := checkValue(places, v); err != api.OK {
		return api.Heap{}, err
	}
	changed := Copy(h)
	changed.Words[p+api.Head+n] = Word(v)
	return changed, api.OK
}
