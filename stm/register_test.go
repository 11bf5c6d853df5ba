package stm

import (
	"math"
	"testing"

	"limewash/api"
)

// P3.2: a thread has one transaction at a time, each thread its own.
func TestBegin(t *testing.T) {
	play(t, 9,
		begin(0), begin(0).fails(api.ErrState),
		begin(1), begin(2), begin(3),
		begin(1).fails(api.ErrState), begin(3).fails(api.ErrState),
		commit(1), begin(1), abort(3), begin(3), begin(2).fails(api.ErrState),
		commit(0), commit(1), commit(2), commit(3),
	)
}

// P3.2, and Is and Number of P3.3: Set, with and without a transaction.
func TestSet(t *testing.T) {
	for _, n := range []int{0, 1, -1, 77, api.MaxNumber, -api.MaxNumber} {
		play(t, 9,
			set(3, 2, n), transfer(3, 1, 3, 2), same(3, 1, 2).yes(),
			begin(3), set(3, 0, n), same(3, 0, 1).yes(),
			create(3, 3, 1), put(3, 3, 0, 0), get(3, 2, 3, 0).is(n),
		)
	}
	for _, n := range []int{api.MaxNumber + 1, -api.MaxNumber - 1, math.MaxInt, math.MinInt} {
		play(t, 9, set(0, 0, n).fails(api.ErrRange), begin(0), set(0, 0, n).fails(api.ErrRange), same(0, 0, 1).yes())
	}
}

// P3.2: a register of another thread, or of the same one.
func TestCopy(t *testing.T) {
	play(t, 9,
		set(1, 2, 5), set(0, 3, 6),
		transfer(0, 1, 1, 2), // register 1 of thread 0 is 5
		set(0, 0, 5), same(0, 0, 1).yes(), same(0, 0, 3), same(0, 0, 2),
		transfer(0, 3, 0, 1), same(0, 3, 0).yes(),
		transfer(0, 0, 0, 0), same(0, 0, 1).yes(),
		// Later changes of the one do not reach the other.
		set(1, 2, 8), same(0, 0, 1).yes(),
	)
	// An object, and not a copy of it.
	play(t, 9, join(shared(1, 1), []line{
		begin(1), set(1, 1, 9), put(1, 0, 0, 1), commit(1),
		begin(0), get(0, 1, 0, 0).is(9),
	})...)
}

// P3.2: a Copy from a different thread while one of the two has a transaction; within a thread it may have one.
func TestCopyAndTransactions(t *testing.T) {
	play(t, 9,
		set(0, 0, 4), set(1, 0, 5),
		begin(0),
		transfer(0, 1, 1, 0).fails(api.ErrState),
		transfer(1, 1, 0, 0).fails(api.ErrState),
		same(0, 1, 2).yes(), same(1, 1, 2).yes(),
		transfer(0, 1, 0, 0), same(0, 0, 1).yes(),
		// Neither of these two has one.
		transfer(2, 1, 1, 0), set(2, 0, 5), same(2, 0, 1).yes(),
		begin(1),
		transfer(0, 1, 1, 0).fails(api.ErrState),
		transfer(1, 1, 0, 0).fails(api.ErrState),
		commit(0),
		transfer(0, 1, 1, 0).fails(api.ErrState),
		transfer(1, 1, 0, 0).fails(api.ErrState),
		abort(1),
		transfer(0, 1, 1, 0), transfer(1, 1, 0, 0),
		set(0, 2, 5), same(0, 1, 2).yes(), set(1, 2, 4), same(1, 1, 2).yes(),
	)
}

// P3.2: equal numbers, the same object; not an object and a number, even if that is its address or its word.
func TestSame(t *testing.T) {
	play(t, 20,
		same(0, 0, 1).yes(), same(0, 2, 2).yes(),
		set(0, 0, 5), same(0, 0, 1), same(0, 1, 0), set(0, 1, 5), same(0, 0, 1).yes(),
		set(0, 1, -5), same(0, 0, 1),
		begin(0),
		create(0, 2, 1), create(0, 3, 1),
		same(0, 2, 3), same(0, 2, 2).yes(), same(0, 3, 3).yes(),
		set(0, 0, 1), same(0, 0, 2), same(0, 2, 0),
		set(0, 0, 3), same(0, 0, 2), set(0, 0, 0), same(0, 0, 2),
		transfer(0, 1, 0, 3), same(0, 1, 3).yes(), same(0, 1, 2),
		// A reference that has come out of a field.
		put(0, 2, 0, 3), get(0, 0, 2, 0), same(0, 0, 3).yes(), same(0, 0, 2),
		commit(0),
		same(0, 0, 3).yes(), same(0, 0, 2),
	)
}

// P3.2 and P3.3: registers that are no object. No act makes one, so the registers are filled by hand.
func TestNoObject(t *testing.T) {
	fresh := func() machine {
		m := machine{memory: api.Heap{Words: make([]int, 20), Top: 1}}
		for _, l := range []line{begin(0), create(0, 2, 1), put(0, 2, 0, 3)} {
			m.perform(l.act)
		}
		m.registers[0][0] = api.Value{Kind: api.Object}
		m.registers[0][1] = api.Value{Kind: api.Object}
		return m
	}
	for _, l := range []line{
		same(0, 0, 1).yes(), same(0, 0, 0).yes(), same(0, 0, 2), same(0, 0, 3), same(0, 3, 1),
		get(0, 3, 0, 0).fails(api.ErrType), put(0, 0, 0, 3).fails(api.ErrType),
	} {
		m := fresh()
		if got := m.perform(l.act); got != l.want {
			t.Errorf("%+v: %+v, want %+v", l.act, got, l.want)
		}
	}
	// As the value of a field, and beside a collection.
	m := fresh()
	for _, l := range []line{
		put(0, 2, 0, 0), collect(), step(1), get(0, 3, 2, 0), same(0, 3, 0).yes(), same(0, 0, 1).yes(),
		abort(0), stat(3, false),
	} {
		if got := m.perform(l.act); got != l.want {
			t.Errorf("%+v: %+v, want %+v", l.act, got, l.want)
		}
	}
}

// P3.2: new objects lie one behind the other; they have no owner and the version 0.
func TestNew(t *testing.T) {
	h := play(t, 20,
		begin(2), create(2, 1, 2), create(2, 3, 0), create(2, 0, 1),
		get(2, 2, 1, 0).is(0), get(2, 2, 1, 1).is(0), get(2, 2, 1, 2).fails(api.ErrNone),
		get(2, 2, 3, 0).fails(api.ErrNone), get(2, 2, 0, 0).is(0),
		stat(9, false), commit(2),
	)
	wantUsed(t, h, 0, 0, 2, 0, 0, 0, 0, 0, 1, 0)
	// Still in the transaction: without a Put there is no owner.
	h = play(t, 20, begin(2), create(2, 1, api.MaxFields))
	wantUsed(t, h, 0, 0, 6, 0, 0, 0, 0, 0, 0)
}

// P3.2: the errors of a New, and where several apply, the first one of the order.
func TestNewErrors(t *testing.T) {
	for _, n := range []int{-1, api.MaxFields + 1, math.MinInt, math.MaxInt} {
		play(t, 3,
			create(0, 0, n).fails(api.ErrState),
			begin(0),
			create(0, 0, n).fails(api.ErrRange),
			commit(0),
			create(0, 0, n).fails(api.ErrState),
		)
	}
	play(t, 3,
		create(0, 0, 0).fails(api.ErrState), create(0, 0, 6).fails(api.ErrState),
		begin(1), create(0, 0, 0).fails(api.ErrState),
		begin(0), create(0, 0, 6).fails(api.ErrSize), create(0, 0, 1).fails(api.ErrSize),
		create(0, 0, 0), create(1, 0, 0).fails(api.ErrSize),
		commit(0), create(0, 0, 0).fails(api.ErrState),
	)
}

// P3.2 and P3.6: a New that just fits, and one that does not.
func TestNewFits(t *testing.T) {
	for fields := range api.MaxFields + 1 {
		size := api.Head + fields
		play(t, 1+size, begin(0), create(0, 0, fields), stat(size, false), create(0, 1, 0).fails(api.ErrSize))
		play(t, size, begin(0), create(0, 0, fields).fails(api.ErrSize), stat(0, false), same(0, 0, 1).yes())
		play(t, 1+2*size, begin(0), create(0, 0, fields), create(0, 0, fields), create(0, 0, fields).fails(api.ErrSize))
	}
	// What an undone transaction has made still takes its words.
	play(t, 9,
		begin(0), create(0, 0, 2), create(0, 1, 2), abort(0), stat(8, false),
		begin(0), create(0, 0, 0).fails(api.ErrSize),
	)
}
