package stm

import (
	"limewash/api"
	"limewash/heap"
)

// transaction of a thread; a thread that has none has the zero value.
type transaction struct {
	open      bool
	registers [api.Registers]api.Value // of the thread, when it began
	recorded  map[int]int              // addresses of objects that it has read, with the version at that time
	owned     map[int]original         // addresses of objects that it has changed
}

// original: what an object was when a thread became its owner.
// Nobody else changes it from then on, so fields that the thread has not changed are still the same.
type original struct {
	version int
	fields  []api.Value
}

// The state of an object is twice its version, or twice its owner plus 1. The version of an object that has an owner is in the original that the owner keeps.

func freeState(version int) int { return 2 * version }

func ownedState(t int) int { return 2*t + 1 }

func isOwned(state int) bool { return state%2 == 1 }

func (m *machine) otherOwns(t, p int) bool {
	state := m.memory.Words[p]
	return isOwned(state) && state != ownedState(t)
}

// version of an object that no other thread owns.
func (m *machine) version(t, p int) int {
	if before, ok := m.transactions[t].owned[p]; ok {
		return before.version
	}
	return m.memory.Words[p] / 2
}

func (m *machine) begin(t int) api.Errno {
	if m.transactions[t].open {
		return api.ErrState
	}
	m.transactions[t] = transaction{
		open:      true,
		registers: m.registers[t],
		recorded:  map[int]int{},
		owned:     map[int]original{},
	}
	return api.OK
}

func (m *machine) commit(t int) api.Errno {
	if !m.transactions[t].open {
		return api.ErrState
	}
	if !m.holds(t) {
		m.undo(t)
		return api.ErrBusy
	}
	for p, before := range m.transactions[t].owned {
		m.memory.Words[p] = freeState(before.version + 1)
	}
	m.transactions[t] = transaction{}
	return api.OK
}

func (m *machine) abort(t int) api.Errno {
	if !m.transactions[t].open {
		return api.ErrState
	}
	m.undo(t)
	return api.OK
}

// holds: is all that the transaction has read unchanged?
// An object that the thread has read first and owned later may have changed in between.
func (m *machine) holds(t int) bool {
	for p, version := range m.transactions[t].recorded {
		if m.otherOwns(t, p) || m.version(t, p) != version {
			return false
		}
	}
	return true
}

func (m *machine) undo(t int) {
	for p, before := range m.transactions[t].owned {
		m.memory.Words[p] = freeState(before.version)
		for n, v := range before.fields {
			m.memory.Words[p+api.Head+n] = heap.Word(v)
		}
	}
	m.registers[t] = m.transactions[t].registers
	m.transactions[t] = transaction{}
}
