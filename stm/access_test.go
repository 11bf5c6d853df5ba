package stm

import (
	"math"
	"testing"

	"limewash/api"
)

// P3.3: fields of numbers and references.
func TestGetAndPut(t *testing.T) {
	h := play(t, 30,
		begin(0),
		create(0, 0, 3), create(0, 1, 1), set(0, 2, -8),
		put(0, 0, 0, 2), put(0, 0, 1, 1), put(0, 0, 2, 0), put(0, 1, 0, 0),
		get(0, 3, 0, 0).is(-8), same(0, 3, 2).yes(),
		get(0, 3, 0, 1), same(0, 3, 1).yes(),
		get(0, 3, 0, 2), same(0, 3, 0).yes(),
		get(0, 3, 1, 0), same(0, 3, 0).yes(),
		// A register that is both the object and what the field becomes, or what it came from.
		put(0, 1, 0, 1), get(0, 3, 1, 0), same(0, 3, 1).yes(),
		get(0, 0, 0, 0).is(-8), same(0, 0, 2).yes(), get(0, 3, 0, 0).fails(api.ErrType),
		commit(0),
	)
	wantUsed(t, h, 0, 2, 3, -16, 13, 3, 2, 1, 13)
}

// P3.3: each field is one of its own, and the largest numbers fit.
func TestEachField(t *testing.T) {
	lines := []line{begin(1), create(1, 0, api.MaxFields)}
	for n := range api.MaxFields {
		lines = append(lines, set(1, 1, n-api.MaxNumber), put(1, 0, n, 1))
	}
	for n := range api.MaxFields {
		lines = append(lines, get(1, 2, 0, n).is(n-api.MaxNumber))
	}
	lines = append(lines, set(1, 1, api.MaxNumber), put(1, 0, 5, 1), get(1, 3, 0, 5).is(api.MaxNumber))
	play(t, 9, lines...)
}

// P3.3: the errors, and where several apply, the first one of the order.
func TestAccessErrors(t *testing.T) {
	for _, n := range []int{0, 1, 2, -1, api.MaxFields, math.MinInt, math.MaxInt} {
		// Thread 1 has an object with one field in register 0, and a number in register 1; thread 0 owns the object.
		lines := join(shared(1, 1), []line{
			begin(0), put(0, 0, 0, 1),
			get(1, 2, 0, n).fails(api.ErrState), get(1, 2, 1, n).fails(api.ErrState),
			put(1, 0, n, 2).fails(api.ErrState), put(1, 1, n, 2).fails(api.ErrState),
			begin(1),
			get(1, 2, 1, n).fails(api.ErrType), put(1, 1, n, 2).fails(api.ErrType),
		})
		if n != 0 {
			lines = append(lines, get(1, 2, 0, n).fails(api.ErrNone), put(1, 0, n, 2).fails(api.ErrNone),
				get(0, 2, 0, n).fails(api.ErrNone), put(0, 0, n, 2).fails(api.ErrNone))
		}
		// None of these has ended a transaction.
		lines = append(lines, begin(1).fails(api.ErrState), begin(0).fails(api.ErrState),
			get(1, 2, 0, 0).fails(api.ErrBusy), begin(1),
			put(1, 0, 0, 2).fails(api.ErrBusy), begin(1), begin(0).fails(api.ErrState))
		play(t, 9, lines...)
	}
	// No object, no field.
	play(t, 9, begin(0), create(0, 0, 0), get(0, 1, 0, 0).fails(api.ErrNone), put(0, 0, 0, 1).fails(api.ErrNone))
}

// P3.3, the example of chapter 3: an object of another thread; the transaction is undone.
func TestBusyUndoes(t *testing.T) {
	for _, access := range []line{get(1, 2, 0, 0), put(1, 0, 0, 2)} {
		h := play(t, 20, join(shared(2, 1), []line{
			// Thread 1 has an object of its own, with the number 3, in register 3.
			begin(1), create(1, 3, 1), set(1, 1, 3), put(1, 3, 0, 1), commit(1),
			begin(0), set(0, 1, 5), put(0, 0, 1, 1),
			begin(1), set(1, 1, 4), put(1, 3, 0, 1), set(1, 2, 9), create(1, 2, 0),
			access.fails(api.ErrBusy),
			// No transaction, and what it has done is gone, but for the object that it has made.
			commit(1).fails(api.ErrState), abort(1).fails(api.ErrState),
			stat(9, false),
			set(1, 0, 3), same(1, 0, 1).yes(), set(1, 0, 0), same(1, 0, 2).yes(),
			begin(1), get(1, 0, 3, 0).is(3), commit(1),
			// The owner goes on.
			get(0, 2, 0, 1).is(5), commit(0),
		})...)
		wantUsed(t, h, 0, 2, 2, 0, 10, 2, 1, 6, 0, 0)
	}
}

// P3.3: the whole object is owned, not one field of it; reading owns nothing.
func TestOwner(t *testing.T) {
	play(t, 9, join(shared(2, 2), []line{
		begin(0), begin(1), begin(2),
		get(0, 1, 0, 0).is(0), get(1, 1, 0, 0).is(0), get(2, 1, 0, 1).is(0),
		put(1, 0, 1, 2),
		get(1, 1, 0, 1).is(0), put(1, 0, 0, 2), put(1, 0, 1, 2),
		get(0, 1, 0, 0).fails(api.ErrBusy),
		put(2, 0, 0, 1).fails(api.ErrBusy),
		commit(1),
		// Nobody is the owner any more.
		begin(0), begin(2), put(0, 0, 0, 1), get(2, 1, 0, 0).fails(api.ErrBusy), abort(0),
		begin(2), put(2, 0, 0, 1), commit(2),
	})...)
}

// P3.3: each thread may be an owner, thread 0 too, and each of the others is kept out.
func TestEachOwner(t *testing.T) {
	for owner := range api.MaxThreads {
		lines := shared(1, 3)
		for thread := range api.MaxThreads {
			lines = append(lines, begin(thread))
		}
		lines = append(lines, put(owner, 0, 0, 1))
		for thread := range api.MaxThreads {
			if thread != owner {
				lines = append(lines, put(thread, 0, 0, 1).fails(api.ErrBusy))
			}
		}
		play(t, 9, append(lines, put(owner, 0, 0, 1), get(owner, 1, 0, 0).is(0), commit(owner))...)
	}
}

// P3.3: a transaction writes immediately: the heap in the end has what an open transaction has put.
func TestWritesImmediately(t *testing.T) {
	h := play(t, 9, join(shared(2, 1), []line{begin(1), set(1, 1, 6), put(1, 0, 1, 1)})...)
	if h.Top != 5 || h.Words[2] != 2 || h.Words[3] != 0 || h.Words[4] != 12 {
		t.Errorf("the heap is %v", h)
	}
}
