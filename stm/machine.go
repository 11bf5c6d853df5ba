package stm

import (
	"limewash/api"
	"limewash/heap"
)

// machine: all that the acts of a script work on.
type machine struct {
	memory       api.Heap
	registers    [api.MaxThreads][api.Registers]api.Value
	transactions [api.MaxThreads]transaction
	collection   collection
}

func (m *machine) perform(a api.Act) api.Answer {
	if err := firstError(a); err != api.OK {
		return api.Answer{Code: err}
	}
	switch a.Kind {
	case api.Begin:
		return api.Answer{Code: m.begin(a.T)}
	case api.Commit:
		return api.Answer{Code: m.commit(a.T)}
	case api.Abort:
		return api.Answer{Code: m.abort(a.T)}
	case api.New:
		return api.Answer{Code: m.create(a)}
	case api.Get:
		return m.get(a)
	case api.Put:
		return api.Answer{Code: m.put(a)}
	case api.Set:
		return m.set(a)
	case api.Copy:
		return api.Answer{Code: m.copyRegister(a)}
	case api.Same:
		return api.Answer{Yes: m.registers[a.T][a.A] == m.registers[a.T][a.B]}
	case api.Collect:
		return api.Answer{Code: m.collect()}
	case api.Step:
		return m.step(a.N)
	default:
		return m.stat()
	}
}

func (m *machine) set(a api.Act) api.Answer {
	if a.N < -api.MaxNumber || a.N > api.MaxNumber {
		return api.Answer{Code: api.ErrRange}
	}
	m.registers[a.T][a.A] = api.Value{Kind: api.Number, N: a.N}
	return api.Answer{Is: true, Number: a.N}
}

func (m *machine) copyRegister(a api.Act) api.Errno {
	// What a transaction has done stays with its thread until it ends.
	if a.N != a.T && (m.transactions[a.T].open || m.transactions[a.N].open) {
		return api.ErrState
	}
	m.registers[a.T][a.A] = m.registers[a.N][a.B]
	return api.OK
}

// create an object. It has no owner: only a Put makes one.
func (m *machine) create(a api.Act) api.Errno {
	if !m.transactions[a.T].open {
		return api.ErrState
	}
	grown, p, err := heap.Alloc(m.memory, a.N)
	if err != api.OK {
		return err
	}
	m.memory = grown
	m.registers[a.T][a.A] = api.Value{Kind: api.Object, N: p}
	return api.OK
}

func (m *machine) stat() api.Answer {
	// Objects lie one behind the other from word 1 on.
	return api.Answer{Words: m.memory.Top - 1, Going: m.collection.going}
}
