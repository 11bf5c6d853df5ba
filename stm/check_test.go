package stm

import (
	"math"
	"testing"

	"limewash/api"
)

// P3.1: the errors of Run, with no other result.
func TestRunErrors(t *testing.T) {
	many := make([]api.Act, api.MaxActs+1)
	for _, c := range []struct {
		words int
		l     []api.Act
		want  api.Errno
	}{
		{0, nil, api.ErrRange},
		{-1, nil, api.ErrRange},
		{api.MaxWords + 1, nil, api.ErrRange},
		{math.MinInt, nil, api.ErrRange},
		{math.MaxInt, []api.Act{{Kind: api.Stat}}, api.ErrRange},
		{1, many, api.ErrSize},
		{api.MaxWords, make([]api.Act, 3*api.MaxActs), api.ErrSize},
		// Both: that of heap.New comes first.
		{0, many, api.ErrRange},
		{api.MaxWords + 1, many, api.ErrRange},
	} {
		answers, h, err := Run(c.words, c.l)
		if len(answers) != 0 || len(h.Words) != 0 || h.Top != 0 || err != c.want {
			t.Errorf("%d words, %d acts: %v %v %v, want %v alone", c.words, len(c.l), answers, h, err, c.want)
		}
	}
}

// P3.1: as few and as many words and acts as there may be.
func TestRunLimits(t *testing.T) {
	for _, words := range []int{1, 2, api.MaxWords} {
		wantUsed(t, play(t, words), 0)
		wantUsed(t, play(t, words, repeat(stat(0, false), api.MaxActs)...), 0)
	}
}

// P3.1: registers are the number 0 in the beginning; there is no transaction and no collection.
func TestBeginning(t *testing.T) {
	for thread := range api.MaxThreads {
		lines := []line{commit(thread).fails(api.ErrState), abort(thread).fails(api.ErrState)}
		for a := range api.Registers {
			lines = append(lines, set(thread, (a+1)%api.Registers, 0), same(thread, a, (a+1)%api.Registers).yes())
		}
		play(t, 9, append(lines, step(1).fails(api.ErrState), stat(0, false))...)
	}
	// Not no object either: a Put of it is a number in a Get.
	play(t, 9, begin(0), create(0, 0, 1), put(0, 0, 0, 1), get(0, 2, 0, 0).is(0))
}

// P3.1: a Kind that is unknown, whatever else is wrong.
func TestUnknownKinds(t *testing.T) {
	for _, kind := range []int{0, api.Stat + 1, -1, 99, math.MinInt, math.MaxInt} {
		for _, n := range []int{0, -1, api.MaxThreads, math.MaxInt} {
			play(t, 9, line{act: api.Act{Kind: kind, T: n, A: n, B: n, N: n}}.fails(api.ErrKind))
		}
	}
}

// kinds with what their T, A, B and N name.
var kinds = []struct {
	kind             int
	thread, a, b, to bool
}{
	{api.Begin, true, false, false, false},
	{api.Commit, true, false, false, false},
	{api.Abort, true, false, false, false},
	{api.New, true, true, false, false},
	{api.Get, true, true, true, false},
	{api.Put, true, true, true, false},
	{api.Set, true, true, false, false},
	{api.Copy, true, true, true, true},
	{api.Same, true, true, true, false},
	{api.Collect, false, false, false, false},
	{api.Step, false, false, false, false},
	{api.Stat, false, false, false, false},
}

func code(t *testing.T, a api.Act) api.Errno {
	t.Helper()
	answers, _, err := Run(9, []api.Act{a})
	if err != api.OK || len(answers) != 1 {
		t.Fatalf("%+v: %v %v", a, answers, err)
	}
	if answers[0].Code != api.OK && answers[0] != (api.Answer{Code: answers[0].Code}) {
		t.Errorf("%+v: %+v has more than its error", a, answers[0])
	}
	return answers[0].Code
}

// P3.1: T, A and B out of range, and N of a Copy, for the kinds that use them; the others ignore them.
// At the beginning, no act of these has an ErrRange of its own with N = 1.
func TestRanges(t *testing.T) {
	outside := []int{-1, 4, 5, math.MinInt, math.MaxInt}
	for _, k := range kinds {
		for _, x := range outside {
			for _, c := range []struct {
				act  api.Act
				used bool
			}{
				{api.Act{Kind: k.kind, T: x, N: 1}, k.thread},
				{api.Act{Kind: k.kind, A: x, N: 1}, k.a},
				{api.Act{Kind: k.kind, B: x, N: 1}, k.b},
			} {
				if got := code(t, c.act); (got == api.ErrRange) != c.used {
					t.Errorf("%+v: %v", c.act, got)
				}
			}
			if got := code(t, api.Act{Kind: k.kind, N: x}); k.to && got != api.ErrRange {
				t.Errorf("Copy from thread %d: %v", x, got)
			}
		}
		for x := range 4 {
			if got := code(t, api.Act{Kind: k.kind, T: x, A: x, B: 3 - x, N: 1}); got == api.ErrRange {
				t.Errorf("kind %d with T and A %d: %v", k.kind, x, got)
			}
		}
	}
	for x := range api.MaxThreads {
		play(t, 9, transfer(0, 0, x, 0), transfer(x, 3, 0, 3))
	}
}

// P3.1: what all acts have in common is checked before anything else.
func TestFirstErrors(t *testing.T) {
	play(t, 9,
		// Nobody has a transaction, no register has an object, and numbers are out of range, too.
		create(4, 0, -1).fails(api.ErrRange),
		create(0, 4, 0).fails(api.ErrRange),
		get(0, 4, 0, 0).fails(api.ErrRange),
		get(0, 0, -1, 0).fails(api.ErrRange),
		put(0, 4, 0, 0).fails(api.ErrRange),
		put(0, 0, 0, 4).fails(api.ErrRange),
		commit(-1).fails(api.ErrRange),
		abort(4).fails(api.ErrRange),
		begin(0),
		// Now thread 0 has one: a Copy would be an ErrState.
		transfer(0, 4, 1, 0).fails(api.ErrRange),
		transfer(0, 0, 4, 0).fails(api.ErrRange),
		transfer(1, 0, 0, 4).fails(api.ErrRange),
		// And a Put or Get an ErrType.
		put(0, 0, 0, 4).fails(api.ErrRange),
		get(0, 4, 0, 0).fails(api.ErrRange),
		begin(4).fails(api.ErrRange),
		commit(0),
	)
}

// P3.1: an act with an error changes nothing.
func TestErrorsChangeNothing(t *testing.T) {
	h := play(t, 8, join(shared(1, 1), []line{
		set(0, 1, 7), set(0, 2, 7),
		set(0, 1, api.MaxNumber+1).fails(api.ErrRange),
		same(0, 1, 2).yes(),
		begin(0),
		begin(0).fails(api.ErrState),
		transfer(0, 1, 1, 1).fails(api.ErrState),
		create(0, 1, 7).fails(api.ErrRange),
		create(0, 1, 3).fails(api.ErrSize),
		get(0, 1, 2, 0).fails(api.ErrType),
		get(0, 1, 0, 1).fails(api.ErrNone),
		put(0, 0, 1, 1).fails(api.ErrNone),
		put(0, 1, 0, 0).fails(api.ErrType),
		same(0, 1, 2).yes(),
		stat(3, false),
		// Thread 0 has become no owner, and has recorded nothing.
		begin(1), set(1, 1, 5), put(1, 0, 0, 1), commit(1),
		commit(0),
	})...)
	wantUsed(t, h, 0, 2, 1, 10)
}
