package stm

import (
	"limewash/api"
	"limewash/heap"
)

func (m *machine) get(a api.Act) api.Answer {
	object := m.registers[a.T][a.B]
	field, err := m.access(a.T, object, a.N)
	if err != api.OK {
		return api.Answer{Code: err}
	}
	m.record(a.T, object.N)
	m.registers[a.T][a.A] = field
	if field.Kind != api.Number {
		return api.Answer{}
	}
	return api.Answer{Is: true, Number: field.N}
}

func (m *machine) put(a api.Act) api.Errno {
	object := m.registers[a.T][a.A]
	if _, err := m.access(a.T, object, a.N); err != api.OK {
		return err
	}
	m.own(a.T, object.N)
	// A register contains nothing that a field may not: there is no error.
	m.memory, _ = heap.Store(m.memory, object.N, a.N, m.registers[a.T][a.B])
	return api.OK
}

// access field n of what a register of the thread contains: the field's value, or why the thread may not have it.
func (m *machine) access(t int, object api.Value, n int) (api.Value, api.Errno) {
	if !m.transactions[t].open {
		return api.Value{}, api.ErrState
	}
	if object.Kind != api.Object || object.N == 0 {
		return api.Value{}, api.ErrType
	}
	field, err := heap.Load(m.memory, object.N, n)
	if err != api.OK {
		return api.Value{}, err
	}
	if m.otherOwns(t, object.N) {
		m.undo(t)
		return api.Value{}, api.ErrBusy
	}
	return field, api.OK
}

func (m *machine) record(t, p int) {
	tx := &m.transactions[t]
	_, owned := tx.owned[p]
	// The first version counts: all that the thread reads must be of one time.
	_, recorded := tx.recorded[p]
	if !owned && !recorded {
		tx.recorded[p] = m.version(t, p)
	}
}

func (m *machine) own(t, p int) {
	tx := &m.transactions[t]
	if _, ok := tx.owned[p]; ok {
		return
	}
	before := original{version: m.version(t, p)}
	for _, w := range m.memory.Words[p+api.Head:][:m.memory.Words[p+1]] {
		before.fields = append(before.fields, heap.Of(w))
	}
	tx.owned[p] = before
	m.memory.Words[p] = ownedState(t)
}
