package stm

import (
	"math/rand"
	"slices"
	"testing"

	"limewash/api"
	"limewash/heap"
)

// kindsOften: kinds of acts; some occur more often than others.
var kindsOften = []int{
	api.Begin, api.Begin, api.Begin, api.Commit, api.Commit, api.Abort, api.New, api.New, api.New,
	api.Get, api.Get, api.Get, api.Get, api.Get, api.Put, api.Put, api.Put, api.Put, api.Put, api.Put,
	api.Set, api.Set, api.Copy, api.Copy, api.Copy, api.Same, api.Collect, api.Step, api.Step, api.Stat,
}

// prelude: all threads have the same two objects in their registers 0 and 1.
func prelude() []api.Act {
	l := []line{begin(0), create(0, 0, 2), create(0, 1, 3), put(0, 0, 1, 1), commit(0)}
	for t := 1; t < api.MaxThreads; t++ {
		l = append(l, transfer(t, 0, 0, 0), transfer(t, 1, 0, 1))
	}
	return acts(l)
}

// randomScript of up to so many acts on few fields, so that threads meet. Some registers change less often than others, and now and then a number is out of range.
func randomScript(r *rand.Rand, most int) []api.Act {
	pick := func(limit int) int {
		if r.Intn(60) == 0 {
			return r.Intn(12) - 3
		}
		return r.Intn(limit)
	}
	threads := 1 + r.Intn(api.MaxThreads)
	var l []api.Act
	if r.Intn(4) > 0 {
		l = prelude()
	}
	for range r.Intn(most - len(l) + 1) {
		a := api.Act{Kind: kindsOften[r.Intn(len(kindsOften))], T: pick(threads), A: pick(4), B: pick(4), N: pick(3)}
		if a.Kind != api.Put && r.Intn(8) > 0 {
			a.A = 2 + pick(2)
		}
		switch a.Kind {
		case api.Copy:
			a.N = pick(threads)
		case api.Step:
			a.N = pick(9)
		}
		if r.Intn(300) == 0 {
			a.Kind = r.Intn(20) - 3
		}
		l = append(l, a)
	}
	return l
}

// tally of what has happened in scripts, by kind and error.
type tally map[[2]int]int

func (y tally) count(l []api.Act, answers []api.Answer) {
	for i, a := range l {
		y[[2]int{a.Kind, int(answers[i].Code)}]++
		if answers[i].Freed > 0 {
			y[[2]int{api.Step, -1}]++
		}
	}
}

// often: has each of these happened often enough for the test to show something?
func (y tally) often(t *testing.T, least int) {
	t.Helper()
	for _, x := range [][2]int{
		{api.Begin, 0}, {api.Begin, 5}, {api.Commit, 0}, {api.Commit, 5}, {api.Commit, 6}, {api.Abort, 0},
		{api.New, 0}, {api.New, 5}, {api.Get, 0}, {api.Get, 4}, {api.Get, 5}, {api.Get, 6}, {api.Get, 7},
		{api.Put, 0}, {api.Put, 4}, {api.Put, 5}, {api.Put, 6}, {api.Put, 7}, {api.Set, 0},
		{api.Copy, 0}, {api.Copy, 5}, {api.Same, 0}, {api.Collect, 0}, {api.Collect, 5},
		{api.Step, 0}, {api.Step, -1}, {api.Step, 2}, {api.Step, 5}, {api.Stat, 0},
	} {
		if y[x] < least {
			t.Errorf("kind %d with %d happened %d times only", x[0], x[1], y[x])
		}
	}
}

// P3.1 to P3.6: random scripts against the model. The seed is fixed: each run is the same.
func TestRandomScripts(t *testing.T) {
	r := rand.New(rand.NewSource(1))
	seen := tally{}
	for range 3000 {
		l := randomScript(r, api.MaxActs)
		words := 1 + r.Intn(60)
		o := model{words: words}
		answers, h, err := Run(words, l)
		if len(answers) != len(l) || err != api.OK || heap.Check(h) != api.OK {
			t.Fatalf("%d words, %+v: %d answers, %v, %v", words, l, len(answers), h, err)
		}
		for i, a := range l {
			if want := o.perform(a); answers[i] != want {
				t.Fatalf("%d words, %+v: %+v, want %+v", words, l[:i+1], answers[i], want)
			}
		}
		got, want := o.withoutOwned(h), o.heap()
		if got.Top != want.Top || !slices.Equal(got.Words, want.Words) {
			t.Fatalf("%d words, %+v: %v, want %v", words, l, got, want)
		}
		seen.count(l, answers)
	}
	seen.often(t, 100)
}

func isCollection(a api.Act) bool { return a.Kind == api.Collect || a.Kind == api.Step }

// few News: all objects fit into the heap, with and without collections.
func few(l []api.Act) []api.Act {
	room := (api.MaxWords - 1) / (api.Head + api.MaxFields)
	return slices.DeleteFunc(l, func(a api.Act) bool {
		if a.Kind != api.New {
			return false
		}
		room--
		return room < 0
	})
}

// P3.6: a collection has no effect except on the number of remaining words. The seed is fixed.
func TestCollectionsHaveNoEffect(t *testing.T) {
	r := rand.New(rand.NewSource(2))
	seen := tally{}
	// In the end, a collection that may be going on is ended, and one more leaves the same objects in the same order.
	tail := []api.Act{{Kind: api.Step, N: api.MaxWords}, {Kind: api.Collect}, {Kind: api.Step, N: api.MaxWords}}
	for range 2000 {
		with := few(randomScript(r, api.MaxActs-len(tail)))
		without := slices.DeleteFunc(slices.Clone(with), isCollection)
		answers, h, _ := Run(api.MaxWords, append(with, tail...))
		plain, hPlain, _ := Run(api.MaxWords, append(without, tail...))
		next := 0
		for i, a := range with {
			if isCollection(a) {
				continue
			}
			got, want := answers[i], plain[next]
			next++
			if a.Kind == api.Stat {
				// A collection changes these two alone.
				got.Words, got.Going, want.Words = 0, false, 0
			}
			if got != want || got.Code == api.ErrSize {
				t.Fatalf("%+v: %+v, without collections %+v", with[:i+1], got, want)
			}
		}
		if h.Top != hPlain.Top || !slices.Equal(h.Words, hPlain.Words) {
			t.Fatalf("%+v: %v, without collections %v", with, h, hPlain)
		}
		seen.count(with, answers)
	}
	seen.often(t, 100)
}

// P3.6: the same, for a script written by hand, with a whole collection before each act, or with a Step of one behind each act.
func TestCollectionsEverywhere(t *testing.T) {
	lines := []line{
		begin(0), create(0, 3, 2), create(0, 0, 2), create(0, 1, 1), put(0, 0, 0, 1), put(0, 1, 0, 0), set(0, 3, 0), commit(0),
		transfer(1, 0, 0, 0), set(0, 1, 0),
		begin(0), begin(1), get(0, 1, 0, 0), get(1, 1, 0, 0), get(1, 2, 0, 1).is(0), get(1, 3, 1, 0), same(1, 3, 0).yes(),
		set(0, 2, 4), put(0, 0, 1, 2), put(0, 0, 0, 2), put(0, 0, 0, 3), set(0, 1, 0), set(0, 0, 0),
		put(1, 1, 0, 2), commit(1).fails(api.ErrBusy),
		abort(0), begin(0), get(0, 1, 0, 1).is(0), get(0, 1, 0, 0), get(0, 2, 1, 0), same(0, 2, 0).yes(), put(0, 1, 0, 1), commit(0),
		begin(1), get(1, 1, 0, 0), get(1, 2, 1, 0), same(1, 1, 2).yes(), same(1, 1, 0), commit(1),
	}
	h := play(t, 20, append(lines, whole(4)...)...)
	wantUsed(t, h, 0, 2, 2, 11, 0, 4, 1, 11)
	for steps := range 4 {
		var all []line
		for _, l := range lines {
			if steps == 0 {
				all = append(all, collect(), step(api.MaxWords))
			}
			all = append(all, l)
			if steps > 0 {
				all = append(all, collect(), step(steps))
			}
		}
		answers, _, _ := Run(20, acts(all))
		for i, l := range all {
			if !isCollection(l.act) && answers[i] != l.want {
				t.Errorf("act %d, %+v: %+v, want %+v", i, l.act, answers[i], l.want)
			}
		}
	}
}
