package stm

import (
	"slices"

	"limewash/api"
	"limewash/gc"
	"limewash/heap"
)

// collection in progress, or none: the zero value.
type collection struct {
	going    bool
	retained []int // addresses, in order
	left     int   // of them: so many have not been examined
	top      int   // the heap's, when it began: objects from here on are newer
}

// collect begins a collection. What is retained is settled here: later acts can only lose references to objects, or make new objects.
// Nothing moves before the collection ends, so the addresses stay right.
func (m *machine) collect() api.Errno {
	if m.collection.going {
		return api.ErrState
	}
	// Threads hold addresses of objects only: there is no error.
	retained, _ := gc.Reach(m.memory, m.roots())
	m.collection = collection{going: true, retained: retained, left: len(retained), top: m.memory.Top}
	return api.OK
}

func (m *machine) step(n int) api.Answer {
	if n < 1 || n > api.MaxWords {
		return api.Answer{Code: api.ErrRange}
	}
	if !m.collection.going {
		return api.Answer{Code: api.ErrState}
	}
	m.collection.left -= n
	if m.collection.left > 0 {
		return api.Answer{}
	}
	return api.Answer{Freed: m.finish()}
}

// finish the collection: the number of words that it has freed.
func (m *machine) finish() int {
	places, _ := heap.Places(m.memory)
	first, _ := slices.BinarySearch(places, m.collection.top)
	keep := append(m.collection.retained, places[first:]...)
	// These refer to each other only: since the collection began, threads have found nothing else. There is no error.
	compact, moves, _ := gc.Compact(m.memory, keep)
	freed := m.memory.Top - compact.Top
	m.memory = compact
	m.follow(moves)
	m.collection = collection{}
	return freed
}

func (m *machine) roots() []int {
	var roots []int
	m.visit(func(p int) int {
		roots = append(roots, p)
		return p
	})
	return roots
}

// follow objects to where they have moved.
func (m *machine) follow(moves []api.Move) {
	// No object is 0, which is no key: it stays 0.
	places := map[int]int{}
	for _, move := range moves {
		places[move.From] = move.To
	}
	m.visit(func(p int) int { return places[p] })
}

// visit all references that threads hold, and replace each address by what the function returns for it.
func (m *machine) visit(replace func(p int) int) {
	for t := range m.transactions {
		visitValues(m.registers[t][:], replace)
		// Without a transaction, these are zero: no references.
		tx := &m.transactions[t]
		visitValues(tx.registers[:], replace)
		tx.recorded = visitKeys(tx.recorded, replace)
		tx.owned = visitKeys(tx.owned, replace)
		for _, before := range tx.owned {
			visitValues(before.fields, replace)
		}
	}
}

func visitValues(l []api.Value, replace func(p int) int) {
	for i, v := range l {
		if v.Kind == api.Object {
			l[i].N = replace(v.N)
		}
	}
}

// visitKeys returns a new map: an address may become one that is still a key of the old map.
func visitKeys[V any](l map[int]V, replace func(p int) int) map[int]V {
	visited := map[int]V{}
	for p, v := range l {
		visited[replace(p)] = v
	}
	return visited
}
