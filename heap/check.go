package heap

import (
	"slices"

	"limewash/api"
)

func isReference(w int) bool { return w&1 == 1 }

func isNumber(n int) bool { return n >= -api.MaxNumber && n <= api.MaxNumber }

// isTarget: may a reference lead to this address? 0 is no object.
func isTarget(places []int, p int) bool { return p == 0 || isPlace(places, p) }

func isPlace(places []int, p int) bool {
	_, found := slices.BinarySearch(places, p)
	return found
}

func hasField(h api.Heap, places []int, p, n int) bool {
	return isPlace(places, p) && n >= 0 && n < h.Words[p+1]
}

// checkValue tells whether a field may hold the value.
func checkValue(places []int, v api.Value) api.Errno {
	switch v.Kind {
	case api.Number:
		if !isNumber(v.N) {
			return api.ErrRange
		}
	case api.Object:
		if !isTarget(places, v.N) {
			return api.ErrNone
		}
	default:
		return api.ErrKind
	}
	return api.OK
}

func sizesValid(h api.Heap) bool {
	words := len(h.Words)
	return words >= 1 && words <= api.MaxWords && h.Top >= 1 && h.Top <= words
}

// walk lists the addresses of the objects below Top, in order; false if these words are not whole objects.
// It does not look at fields: these may refer to objects further on.
func walk(h api.Heap) ([]int, bool) {
	var places []int
	for p := 1; p < h.Top; p += api.Head + h.Words[p+1] {
		if !objectFits(h, p) {
			return nil, false
		}
		places = append(places, p)
	}
	return places, true
}

func objectFits(h api.Heap, p int) bool {
	if p+api.Head > h.Top {
		return false
	}
	state, fields := h.Words[p], h.Words[p+1]
	return state >= 0 && state <= 2*api.MaxVersions &&
		fields >= 0 && fields <= api.MaxFields && p+api.Head+fields <= h.Top
}

func fieldsValid(h api.Heap, places []int) bool {
	for _, p := range places {
		first := p + api.Head
		for _, w := range h.Words[first : first+h.Words[p+1]] {
			if checkValue(places, Of(w)) != api.OK {
				return false
			}
		}
	}
	return true
}

func restZero(h api.Heap) bool {
	for _, w := range h.Words[h.Top:] {
		if w != 0 {
			return false
		}
	}
	return true
}
