package stm

import (
	"slices"
	"testing"

	"limewash/api"
	"limewash/heap"
)

// line of a script: an act, and the answer that it must get.
type line struct {
	act  api.Act
	want api.Answer
}

func begin(t int) line { return line{act: api.Act{Kind: api.Begin, T: t}} }

func commit(t int) line { return line{act: api.Act{Kind: api.Commit, T: t}} }

func abort(t int) line { return line{act: api.Act{Kind: api.Abort, T: t}} }

// create: register a is a new object.
func create(t, a, fields int) line {
	return line{act: api.Act{Kind: api.New, T: t, A: a, N: fields}}
}

// get: register a is field n of the object in register b.
func get(t, a, b, n int) line {
	return line{act: api.Act{Kind: api.Get, T: t, A: a, B: b, N: n}}
}

// put: field n of the object in register a is register b.
func put(t, a, n, b int) line {
	return line{act: api.Act{Kind: api.Put, T: t, A: a, B: b, N: n}}
}

func set(t, a, n int) line {
	return line{act: api.Act{Kind: api.Set, T: t, A: a, N: n}}.is(n)
}

// transfer: register a is register b of the thread from.
func transfer(t, a, from, b int) line {
	return line{act: api.Act{Kind: api.Copy, T: t, A: a, B: b, N: from}}
}

func same(t, a, b int) line { return line{act: api.Act{Kind: api.Same, T: t, A: a, B: b}} }

func collect() line { return line{act: api.Act{Kind: api.Collect}} }

func step(n int) line { return line{act: api.Act{Kind: api.Step, N: n}} }

func stat(words int, going bool) line {
	return line{act: api.Act{Kind: api.Stat}, want: api.Answer{Words: words, Going: going}}
}

func (l line) fails(err api.Errno) line {
	l.want = api.Answer{Code: err}
	return l
}

func (l line) is(n int) line {
	l.want = api.Answer{Is: true, Number: n}
	return l
}

func (l line) yes() line {
	l.want = api.Answer{Yes: true}
	return l
}

func (l line) frees(words int) line {
	l.want = api.Answer{Freed: words}
	return l
}

// join parts of a script.
func join(parts ...[]line) []line { return slices.Concat(parts...) }

// repeat an act so many times.
func repeat(l line, times int) []line { return slices.Repeat([]line{l}, times) }

func acts(lines []line) []api.Act {
	var l []api.Act
	for _, x := range lines {
		l = append(l, x.act)
	}
	return l
}

// play a script: each answer must be as its line says, and the heap in the end must be valid.
func play(t *testing.T, words int, lines ...line) api.Heap {
	t.Helper()
	answers, h, err := Run(words, acts(lines))
	if err != api.OK || len(answers) != len(lines) {
		t.Fatalf("%d answers to %d acts, %v", len(answers), len(lines), err)
	}
	for i, x := range lines {
		if answers[i] != x.want {
			t.Errorf("act %d, %+v: %+v, want %+v", i, x.act, answers[i], x.want)
		}
	}
	if len(h.Words) != words || heap.Check(h) != api.OK {
		t.Errorf("the heap is not valid, or not of %d words: %v", words, h)
	}
	return h
}

// wantUsed: the used words of a heap, those below Top.
func wantUsed(t *testing.T, h api.Heap, used ...int) {
	t.Helper()
	if !slices.Equal(h.Words[:h.Top], used) {
		t.Errorf("the used words are %v, want %v", h.Words[:h.Top], used)
	}
}

// shared: threads 0 to others have an object with so many fields in register 0, of version 0 and without an owner; no transaction is open.
func shared(fields, others int) []line {
	l := []line{begin(0), create(0, 0, fields), commit(0)}
	for t := 1; t <= others; t++ {
		l = append(l, transfer(t, 0, 0, 0))
	}
	return l
}
