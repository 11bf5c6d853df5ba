package stm

import (
	"math"
	"testing"

	"limewash/api"
)

// whole collection, which frees so many words.
func whole(freed int) []line { return []line{collect(), step(api.MaxWords).frees(freed)} }

// P3.5: the errors, and where both apply, the first one of the order.
func TestCollectErrors(t *testing.T) {
	for _, n := range []int{0, -1, api.MaxWords + 1, math.MinInt, math.MaxInt} {
		play(t, 9,
			step(n).fails(api.ErrRange),
			collect(), step(n).fails(api.ErrRange), stat(0, true),
			step(1), step(n).fails(api.ErrRange), stat(0, false),
		)
	}
	play(t, 9,
		step(1).fails(api.ErrState), step(api.MaxWords).fails(api.ErrState),
		collect(), collect().fails(api.ErrState), stat(0, true),
		step(1), step(1).fails(api.ErrState),
		collect(), step(api.MaxWords), step(api.MaxWords).fails(api.ErrState),
	)
}

// P3.5: a Collect in between neither begins anew nor ends the collection.
func TestCollectTwice(t *testing.T) {
	play(t, 20, join(shared(0, 0), []line{
		begin(0), create(0, 1, 0), commit(0),
		collect(), step(1), set(0, 1, 0),
		collect().fails(api.ErrState),
		step(1), stat(4, false),
	}, whole(2), []line{stat(2, false)})...)
}

// P3.5: when there are no retained objects, the first Step ends the collection; without one, it does not end.
func TestNothingRetained(t *testing.T) {
	play(t, 9, collect(), stat(0, true), step(1), stat(0, false))
	play(t, 9, join(shared(3, 0), []line{
		set(0, 0, 0), collect(), stat(5, true), stat(5, true), step(1).frees(5), stat(0, false),
	})...)
}

// chain of so many objects, each with one field that refers to the one made before; thread 0 has the last one in register 0.
func chain(objects int) []line {
	l := []line{begin(0)}
	for range objects {
		l = append(l, create(0, 1, 1), put(0, 1, 0, 0), transfer(0, 0, 0, 1))
	}
	return append(l, commit(0), set(0, 1, 0))
}

// P3.5: a collection takes as many Steps as its retained objects need, and the last one may have less to examine.
func TestSteps(t *testing.T) {
	for objects := range 8 {
		for n := 1; n <= 9; n++ {
			lines := join(chain(objects), []line{
				// Garbage does not count, be it old or new.
				begin(1), create(1, 0, 0), create(1, 1, 2), abort(1),
				collect(),
				begin(1), create(1, 0, 1), create(1, 1, 1), abort(1),
			})
			used := 3*objects + 12
			for left := objects - n; left > 0; left -= n {
				lines = append(lines, step(n), stat(used, true))
			}
			play(t, 60, append(lines, step(n).frees(6), stat(used-6, false), step(n).fails(api.ErrState))...)
		}
	}
}

// P3.5: Steps of different sizes add up.
func TestUnevenSteps(t *testing.T) {
	play(t, 60, join(chain(7), []line{
		collect(), step(2), step(4), stat(21, true), step(5), stat(21, false),
	})...)
}

// P3.5: what is reachable from registers, of any thread, stays; what is not goes, even in a circle.
func TestRetainedByRegisters(t *testing.T) {
	for thread := range api.MaxThreads {
		for a := range api.Registers {
			h := play(t, 30, join([]line{
				begin(thread), create(thread, 0, 1), create(thread, 1, 1), create(thread, 2, 2), create(thread, 3, 0),
				put(thread, 0, 0, 1), put(thread, 1, 0, 0), // a circle
				put(thread, 2, 1, 3),
				transfer(thread, a, thread, 2),
				commit(thread),
			}, forget(thread, a), whole(6), []line{stat(6, false)})...)
			wantUsed(t, h, 0, 2, 2, 0, 11, 0, 0)
		}
	}
}

// forget all registers of a thread but one.
func forget(thread, but int) []line {
	var l []line
	for a := range api.Registers {
		if a != but {
			l = append(l, set(thread, a, 0))
		}
	}
	return l
}

// P3.5: objects move together, and threads use them as before.
func TestMoved(t *testing.T) {
	h := play(t, 30, join([]line{
		begin(0),
		create(0, 0, 1), create(0, 0, 2), create(0, 1, 3), create(0, 2, 1), // at 1, 4, 8 and 13
		set(0, 3, 7), put(0, 0, 0, 3), put(0, 0, 1, 2), put(0, 2, 0, 0),
		commit(0), transfer(2, 1, 0, 2), set(0, 1, 0), set(0, 2, 0),
	}, whole(8), []line{
		stat(7, false),
		begin(0), get(0, 1, 0, 0).is(7), get(0, 2, 0, 1), get(0, 3, 2, 0), same(0, 3, 0).yes(), commit(0),
		transfer(2, 2, 0, 2), same(2, 1, 2).yes(),
		begin(2), set(2, 0, 9), put(2, 1, 0, 0), commit(2),
		begin(0), create(0, 3, 1),
	})...)
	wantUsed(t, h, 0, 2, 2, 14, 11, 4, 1, 18, 0, 1, 0)
}

// P3.5: registers that would be restored.
func TestRetainedForRegisters(t *testing.T) {
	play(t, 20, join(chain(2), []line{
		begin(0), create(0, 1, 1), set(0, 0, 0), set(0, 1, 0),
	}, whole(3), []line{
		stat(6, false),
		abort(0),
		begin(0), get(0, 1, 0, 0), get(0, 2, 1, 0).is(0), commit(0),
		set(0, 0, 0), set(0, 1, 0),
	}, whole(6))...)
}

// P3.5: fields that would be restored, and what is reachable from there.
func TestRetainedForFields(t *testing.T) {
	h := play(t, 20, join([]line{begin(1), create(1, 3, 2), abort(1)}, chain(3), []line{
		// The chain's last object loses the two others.
		begin(0), put(0, 0, 0, 1),
	}, whole(4), []line{
		stat(9, false),
		abort(0),
		begin(0), get(0, 1, 0, 0), get(0, 1, 1, 0), get(0, 1, 1, 0).is(0), abort(0),
	})...)
	wantUsed(t, h, 0, 2, 1, 0, 2, 1, 3, 2, 1, 9)
	// A Commit leaves them to the next collection.
	play(t, 20, join(chain(3), []line{begin(0), put(0, 0, 0, 1)}, whole(0), []line{commit(0)}, whole(6))...)
}

// P3.5: what a field would be restored to is its first value, not one that the transaction itself has put in between.
func TestNotRetainedInBetween(t *testing.T) {
	h := play(t, 20, join(shared(1, 0), []line{
		begin(0), create(0, 1, 2), put(0, 0, 0, 1), set(0, 1, 5), put(0, 0, 0, 1),
	}, whole(4), []line{stat(3, false), abort(0)})...)
	wantUsed(t, h, 0, 0, 1, 0)
}

// P3.5: an object that an open transaction has recorded, though nothing refers to it any more.
func TestRetainedRecorded(t *testing.T) {
	for _, end := range []line{commit(0), abort(0)} {
		play(t, 30, join([]line{
			begin(0), create(0, 0, 4), create(0, 1, 1), get(0, 2, 1, 0).is(0), set(0, 0, 0), set(0, 1, 0),
		}, whole(6), []line{stat(3, false), end}, whole(3), []line{stat(0, false)})...)
	}
}

// P3.5: a recorded object that another thread has cut off, and what it refers to.
func TestRetainedCutOff(t *testing.T) {
	h := play(t, 30, join([]line{
		begin(0), create(0, 3, 3), create(0, 0, 1), create(0, 1, 1), create(0, 2, 0), // at 1, 6, 9 and 12
		put(0, 0, 0, 1), put(0, 1, 0, 2), commit(0),
		transfer(1, 0, 0, 0), transfer(2, 0, 0, 0), // the one at 6
	}, forget(0, 0), []line{
		set(0, 0, 0),
		begin(1), get(1, 1, 0, 0), get(1, 2, 1, 0), set(1, 0, 0), set(1, 1, 0), set(1, 2, 0),
		begin(2), put(2, 0, 0, 1), commit(2),
		collect(), step(2), step(1).frees(5), stat(8, false),
		// The version of the one at 6 has changed.
		commit(1).fails(api.ErrBusy),
		collect(), step(1).frees(5), stat(3, false),
		begin(1), get(1, 1, 0, 0).is(0),
	})...)
	wantUsed(t, h, 0, 4, 1, 0)
}

// P3.5: an object that an open transaction owns, though nothing refers to it any more.
func TestRetainedOwned(t *testing.T) {
	for _, end := range []line{commit(0), abort(0)} {
		play(t, 30, join([]line{
			begin(0), create(0, 0, 3), set(0, 0, 0), // at 1, garbage
			create(0, 1, 1), create(0, 2, 0), // at 6 and 9
			put(0, 1, 0, 2), set(0, 1, 0), set(0, 2, 0),
		}, whole(5), []line{stat(5, false), end}, whole(5), []line{stat(0, false)})...)
	}
}

// P3.5: an object that has been made in a transaction without a Get or Put is neither recorded nor owned.
func TestNotRetainedNew(t *testing.T) {
	play(t, 30, join([]line{begin(0), create(0, 0, 3), set(0, 0, 0)}, whole(5), []line{stat(0, false), commit(0)})...)
}

// P3.5: owners, versions and records go with the objects that move.
func TestMovedTransactions(t *testing.T) {
	play(t, 40, join([]line{
		begin(0), create(0, 3, 4), create(0, 0, 1), create(0, 1, 1), create(0, 2, 1), commit(0), set(0, 3, 0),
		transfer(1, 0, 0, 0), transfer(1, 1, 0, 1), transfer(1, 2, 0, 2),
		begin(0), set(0, 3, 5), put(0, 0, 0, 3), get(0, 3, 1, 0).is(0),
		begin(1), set(1, 3, 6), put(1, 2, 0, 3),
	}, whole(6), []line{
		begin(2), transfer(2, 0, 0, 0).fails(api.ErrState),
		get(0, 3, 0, 0).is(5), put(0, 0, 0, 3),
		get(1, 3, 0, 0).fails(api.ErrBusy), // thread 0 owns the first one
		begin(1), get(1, 3, 2, 0).is(0), set(1, 3, 8), put(1, 1, 0, 3), commit(1),
		commit(0).fails(api.ErrBusy), // it had recorded the second one
		begin(0), get(0, 3, 0, 0).is(0), get(0, 3, 1, 0).is(8), commit(0),
	})...)
}

// P3.5: an object that is no longer reachable when the collection ends, but was when it began.
func TestRetainedSinceBeginning(t *testing.T) {
	play(t, 30, join(chain(2), []line{
		collect(), set(0, 0, 0), step(1), stat(6, true), step(1), stat(6, false),
	}, whole(6), []line{stat(0, false)})...)
}

// P3.5: a reference that moves from an object that has not been examined to one that has.
func TestRetainedWhileMoved(t *testing.T) {
	play(t, 30, join(chain(3), []line{
		// The last object of the chain refers to the second one, and that to the first one.
		collect(), step(1),
		begin(0), get(0, 1, 0, 0), get(0, 2, 1, 0), put(0, 0, 0, 2), put(0, 1, 0, 3), commit(0),
		set(0, 1, 0), set(0, 2, 0),
		step(1), step(1), stat(9, false),
		begin(0), get(0, 1, 0, 0), get(0, 2, 1, 0).is(0), commit(0), set(0, 1, 0),
	}, whole(3), []line{stat(6, false)})...)
}

// P3.5: objects made after a Collect stay, whether somebody refers to them or not.
func TestNewAfterCollect(t *testing.T) {
	h := play(t, 40, join([]line{
		begin(0), create(0, 0, 0), create(0, 0, 3), commit(0), // at 1 and 3: the first one is garbage
		collect(),
		begin(0), create(0, 1, 1), put(0, 0, 0, 1), put(0, 1, 0, 0), create(0, 1, 4), commit(0),
		begin(1), create(1, 0, 0), abort(1),
		set(0, 1, 0),
		stat(18, true), step(1).frees(2), stat(16, false),
	})...)
	wantUsed(t, h, 0, 2, 3, 13, 0, 0, 2, 1, 3, 0, 4, 0, 0, 0, 0, 0, 0)
	// The next collection removes those to which nobody refers.
	play(t, 40, join([]line{
		collect(), begin(0), create(0, 0, 0), create(0, 0, 1), commit(0), step(1), stat(5, false),
	}, whole(2), []line{stat(3, false)})...)
}

// P3.5: Freed belongs to the Step that ends the collection alone.
func TestFreed(t *testing.T) {
	play(t, 40, join([]line{begin(1), create(1, 0, 6), create(1, 0, 0), abort(1)}, chain(3), []line{
		collect(), step(1), step(1), step(1).frees(10), collect(), step(2), step(2),
	})...)
}

// P3.6: words of all objects, until they have been removed.
func TestStat(t *testing.T) {
	play(t, 30,
		stat(0, false), begin(0), stat(0, false),
		create(0, 0, 0), stat(2, false), create(0, 0, 6), stat(10, false), create(0, 1, 1), stat(13, false),
		abort(0), stat(13, false), collect(), stat(13, true),
		begin(0), create(0, 0, 2), stat(17, true), step(1).frees(13), stat(4, false), commit(0),
	)
	// T, A, B and N mean nothing here.
	l := []api.Act{{Kind: api.Stat, T: -1, A: 9, B: -9, N: math.MaxInt}, {Kind: api.Collect, T: 4, A: -1, B: 4, N: -1}, {Kind: api.Stat, T: 4}, {Kind: api.Step, T: -1, A: 4, B: 9, N: 1}}
	answers, _, _ := Run(5, l)
	for i, a := range answers {
		if a != (api.Answer{Going: i == 2}) {
			t.Errorf("act %d: %+v", i, a)
		}
	}
}

// P3.6: words that a collection has freed can be used again, as often as one likes; before it ends, they cannot.
func TestWordsAgain(t *testing.T) {
	lines := []line{begin(0)}
	for range 20 {
		lines = append(lines,
			create(0, 0, 2), create(0, 1, 2), create(0, 1, 0).fails(api.ErrSize), set(0, 0, 0), set(0, 1, 0),
			collect(), create(0, 1, 0).fails(api.ErrSize), step(1).frees(8), stat(0, false))
	}
	play(t, 9, lines...)
	// One word too few, and just enough.
	play(t, 9, join([]line{begin(0), create(0, 0, 1), create(0, 1, 3), set(0, 0, 0)}, whole(3), []line{
		create(0, 0, 2).fails(api.ErrSize), create(0, 0, 1), create(0, 2, 0).fails(api.ErrSize),
	})...)
}
