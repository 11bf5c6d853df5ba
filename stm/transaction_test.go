package stm

import (
	"testing"

	"limewash/api"
)

// P3.4
func TestNoTransaction(t *testing.T) {
	play(t, 9,
		commit(0).fails(api.ErrState), abort(0).fails(api.ErrState),
		begin(1), commit(0).fails(api.ErrState), abort(0).fails(api.ErrState), commit(1),
		commit(1).fails(api.ErrState), begin(1), abort(1), abort(1).fails(api.ErrState), commit(1).fails(api.ErrState),
	)
}

// P3.4: a Commit increments the versions of the objects that the thread owns by one, and of no others.
func TestVersions(t *testing.T) {
	h := play(t, 20,
		begin(0), create(0, 0, 1), create(0, 1, 1), create(0, 2, 0), commit(0),
		begin(0), put(0, 0, 0, 3), put(0, 0, 0, 3), get(0, 3, 1, 0).is(0), commit(0),
		begin(0), put(0, 0, 0, 3), commit(0),
		begin(0), get(0, 3, 0, 0).is(0), put(0, 0, 0, 3), get(0, 3, 0, 0).is(0), put(0, 1, 0, 3), commit(0),
		begin(0), get(0, 3, 0, 0).is(0), commit(0),
		begin(0), put(0, 0, 0, 3), abort(0),
	)
	wantUsed(t, h, 0, 6, 1, 0, 2, 1, 0, 0, 0)
}

// P3.4: a Commit keeps what the transaction has done.
func TestCommitKeeps(t *testing.T) {
	play(t, 9,
		begin(0), create(0, 0, 1), set(0, 1, 7), put(0, 0, 0, 1), set(0, 1, 9), set(0, 2, 9), commit(0),
		same(0, 1, 2).yes(), transfer(1, 0, 0, 0),
		// A later transaction's undoing goes back to here, not further.
		begin(0), set(0, 1, 3), put(0, 0, 0, 1), abort(0), same(0, 1, 2).yes(),
		begin(1), get(1, 1, 0, 0).is(7),
	)
}

// P3.4: the version of a recorded object has changed, by one or more commits.
func TestCommitAfterChange(t *testing.T) {
	for _, times := range []int{1, 2, 5} {
		change := []line{begin(1), set(1, 1, 5), put(1, 0, 0, 1), commit(1)}
		lines := join(shared(2, 1), []line{set(0, 1, 8), begin(0), get(0, 1, 0, 0).is(0)})
		for range times {
			lines = append(lines, change...)
		}
		lines = append(lines,
			// A second Get does not record anew.
			get(0, 2, 0, 0).is(5),
			commit(0).fails(api.ErrBusy), commit(0).fails(api.ErrState), abort(0).fails(api.ErrState),
			set(0, 2, 8), same(0, 1, 2).yes(),
			begin(0), get(0, 1, 0, 0).is(5), commit(0))
		wantUsed(t, play(t, 9, lines...), 0, 2*times, 2, 10, 0)
	}
}

// P3.4: the version changes even if a commit has put the value that was there, or another field.
func TestCommitAfterSameValue(t *testing.T) {
	for field := range 2 {
		play(t, 9, join(shared(2, 1), []line{
			begin(0), get(0, 1, 0, 0).is(0),
			begin(1), put(1, 0, field, 1), commit(1),
			commit(0).fails(api.ErrBusy),
		})...)
	}
}

// P3.4: another thread is the owner of a recorded object.
func TestCommitWhileOwned(t *testing.T) {
	h := play(t, 9, join(shared(1, 1), []line{
		begin(0), get(0, 1, 0, 0).is(0),
		begin(1), set(1, 1, 5), put(1, 0, 0, 1),
		commit(0).fails(api.ErrBusy), commit(0).fails(api.ErrState),
		commit(1),
	})...)
	wantUsed(t, h, 0, 2, 1, 10)
	// It was the owner, and has been undone: nothing has changed.
	play(t, 9, join(shared(1, 1), []line{
		begin(0), get(0, 1, 0, 0).is(0),
		begin(1), set(1, 1, 5), put(1, 0, 0, 1), abort(1),
		get(0, 1, 0, 0).is(0), commit(0),
	})...)
	// An owner that committed before the Get is no reason.
	play(t, 9, join(shared(1, 1), []line{
		begin(0),
		begin(1), set(1, 1, 5), put(1, 0, 0, 1), commit(1),
		get(0, 1, 0, 0).is(5), commit(0),
	})...)
}

// P3.4: whichever thread is the owner, and whatever the version.
func TestCommitWhileEachOwns(t *testing.T) {
	for owner := range api.MaxThreads {
		reader := (owner + 1) % api.MaxThreads
		for version := range 5 {
			lines := shared(1, 3)
			for range version {
				lines = append(lines, begin(2), put(2, 0, 0, 1), commit(2))
			}
			play(t, 9, append(lines,
				begin(reader), get(reader, 1, 0, 0).is(0),
				begin(owner), put(owner, 0, 0, 1),
				commit(reader).fails(api.ErrBusy), commit(owner))...)
		}
	}
}

// P3.4: an object that the thread has read, and then owned: it may have changed before that, but not by the thread itself.
func TestCommitOfReadAndOwned(t *testing.T) {
	play(t, 9, join(shared(1, 1), []line{
		begin(0), get(0, 1, 0, 0).is(0), put(0, 0, 0, 1), get(0, 1, 0, 0).is(0), put(0, 0, 0, 1), commit(0),
		begin(0), put(0, 0, 0, 1), get(0, 1, 0, 0).is(0), commit(0),
	})...)
	h := play(t, 9, join(shared(1, 1), []line{
		begin(0), get(0, 1, 0, 0).is(0),
		begin(1), set(1, 1, 5), put(1, 0, 0, 1), commit(1),
		set(0, 1, 6), put(0, 0, 0, 1), get(0, 2, 0, 0).is(6),
		commit(0).fails(api.ErrBusy),
		begin(1), get(1, 2, 0, 0).is(5), commit(1),
	})...)
	wantUsed(t, h, 0, 2, 1, 10)
	// Without the Get before, nothing is recorded.
	h = play(t, 9, join(shared(1, 1), []line{
		begin(0),
		begin(1), set(1, 1, 5), put(1, 0, 0, 1), commit(1),
		set(0, 1, 6), put(0, 0, 0, 1), get(0, 2, 0, 0).is(6),
		commit(0),
	})...)
	wantUsed(t, h, 0, 4, 1, 12)
}

// P3.4: one changed object among several is enough, whichever it is.
func TestCommitOfSeveral(t *testing.T) {
	for changed := range 3 {
		lines := []line{begin(0)}
		for a := range 3 {
			lines = append(lines, create(0, a, 1))
		}
		lines = append(lines, commit(0), transfer(1, 0, 0, changed), begin(0))
		for a := range 3 {
			lines = append(lines, get(0, 3, a, 0).is(0))
		}
		lines = append(lines, put(0, 2-changed, 0, 3))
		if changed == 1 {
			// Thread 0 owns this one itself: thread 1 cannot change it.
			lines = append(lines, begin(1), put(1, 0, 0, 1).fails(api.ErrBusy), commit(0))
		} else {
			lines = append(lines, begin(1), put(1, 0, 0, 1), commit(1), commit(0).fails(api.ErrBusy))
		}
		play(t, 12, lines...)
	}
}

// P3.4: what a transaction has recorded ends with it.
func TestRecordsEnd(t *testing.T) {
	for _, end := range []line{commit(0), abort(0)} {
		play(t, 9, join(shared(1, 1), []line{
			begin(0), get(0, 1, 0, 0).is(0), end,
			begin(1), put(1, 0, 0, 1), commit(1),
			begin(0), commit(0),
		})...)
	}
}

// P3.4: an Abort restores the registers, the fields, the owners and the versions.
func TestAbort(t *testing.T) {
	h := play(t, 30, join(shared(3, 1), []line{
		set(0, 1, 1), set(0, 2, 2),
		begin(0), put(0, 0, 0, 1), put(0, 0, 1, 0), commit(0), // fields 1, itself, 0; version 1
		begin(0),
		set(0, 3, 7), put(0, 0, 0, 3), set(0, 3, 8), put(0, 0, 0, 3), // the same field twice
		create(0, 3, 2), put(0, 0, 1, 3), put(0, 3, 1, 0), // a new object, owned as well
		transfer(0, 1, 0, 2), set(0, 2, 9), get(0, 0, 0, 1),
		abort(0),
		set(0, 3, 1), same(0, 1, 3).yes(), set(0, 3, 2), same(0, 2, 3).yes(),
		set(0, 3, 0),
		begin(1), get(1, 1, 0, 0).is(1), get(1, 1, 0, 1), same(1, 1, 0).yes(), get(1, 1, 0, 2).is(0),
		put(1, 0, 2, 2), commit(1),
		begin(0), get(0, 3, 0, 0).is(1), commit(0),
	})...)
	wantUsed(t, h, 0, 4, 3, 2, 3, 0, 0, 2, 0, 0)
}

// P3.4: a register that was an object, and one that was the number 0, are so again.
func TestAbortRestoresRegisters(t *testing.T) {
	play(t, 30, join(shared(1, 0), []line{
		transfer(0, 1, 0, 0),
		begin(0), set(0, 0, 4), create(0, 2, 0), create(0, 3, 0), abort(0),
		same(0, 0, 1).yes(), same(0, 2, 3).yes(), set(0, 1, 0), same(0, 2, 1).yes(),
	})...)
	// The registers of other threads stay as they are.
	play(t, 9, set(1, 0, 4), begin(0), begin(1), set(1, 0, 5), abort(0), set(1, 1, 5), same(1, 0, 1).yes())
}

// P3.4: undoing does not go behind what another thread has committed after the transaction began.
func TestUndoStopsAtCommits(t *testing.T) {
	h := play(t, 9, join(shared(2, 1), []line{
		begin(0),
		begin(1), set(1, 1, 5), put(1, 0, 0, 1), put(1, 0, 1, 1), commit(1),
		set(0, 1, 6), put(0, 0, 0, 1), abort(0),
	})...)
	wantUsed(t, h, 0, 2, 2, 10, 10)
}

// P3.4: undoing one transaction leaves those of others open.
func TestUndoOfOne(t *testing.T) {
	h := play(t, 20,
		begin(0), create(0, 0, 1), create(0, 1, 1), commit(0), transfer(1, 1, 0, 1), transfer(1, 0, 0, 0),
		begin(0), begin(1), set(0, 2, 3), set(1, 2, 4), put(0, 0, 0, 2), put(1, 1, 0, 2),
		get(1, 3, 0, 0).fails(api.ErrBusy),
		begin(1), put(1, 1, 0, 3), get(0, 3, 1, 0).fails(api.ErrBusy), commit(1),
	)
	wantUsed(t, h, 0, 0, 1, 0, 2, 1, 0)
}
