package stm

import (
	"slices"

	"limewash/api"
)

// model is chapter 3 once more, in a slow and different way: objects are pointers and never move, and each change of a field is logged.
type model struct {
	words    int
	things   []*thing // all that have not been removed, the oldest first
	threads  [api.MaxThreads]actor
	going    bool
	retained []*thing
	old      []*thing // all that there were when the collection began
	examined int
}

type thing struct {
	version int
	owner   int // a thread, or -1
	fields  []cell
}

// cell: a number, or a reference if there is one. No act makes a reference to no object.
type cell struct {
	number int
	ref    *thing
}

type actor struct {
	open             bool
	registers, saved [api.Registers]cell
	log              []change
	seen             []sight
}

type change struct {
	at     *thing
	n      int
	before cell
}

type sight struct {
	at      *thing
	version int
}

func (c cell) answer() api.Answer {
	if c.ref != nil {
		return api.Answer{}
	}
	return api.Answer{Is: true, Number: c.number}
}

func (o *model) used() int {
	sum := 0
	for _, x := range o.things {
		sum += api.Head + len(x.fields)
	}
	return sum
}

func (o *model) perform(a api.Act) api.Answer {
	within := func(x, limit int) bool { return 0 <= x && x < limit }
	refuse := func(e api.Errno) api.Answer { return api.Answer{Code: e} }
	switch a.Kind {
	case api.Collect:
		return o.collect()
	case api.Step:
		return o.step(a.N)
	case api.Stat:
		return api.Answer{Words: o.used(), Going: o.going}
	case api.Begin, api.Commit, api.Abort:
		if !within(a.T, api.MaxThreads) {
			return refuse(api.ErrRange)
		}
		if o.threads[a.T].open == (a.Kind == api.Begin) {
			return refuse(api.ErrState)
		}
		return refuse(o.bound(a))
	case api.New, api.Set:
		if !within(a.T, api.MaxThreads) || !within(a.A, api.Registers) {
			return refuse(api.ErrRange)
		}
	case api.Get, api.Put, api.Copy, api.Same:
		if !within(a.T, api.MaxThreads) || !within(a.A, api.Registers) || !within(a.B, api.Registers) {
			return refuse(api.ErrRange)
		}
	default:
		return refuse(api.ErrKind)
	}
	me := &o.threads[a.T]
	switch a.Kind {
	case api.New:
		switch {
		case !me.open:
			return refuse(api.ErrState)
		case !within(a.N, api.MaxFields+1):
			return refuse(api.ErrRange)
		case o.words-o.used()-1 < api.Head+a.N:
			return refuse(api.ErrSize)
		}
		made := &thing{owner: -1, fields: make([]cell, a.N)}
		o.things = append(o.things, made)
		me.registers[a.A] = cell{ref: made}
	case api.Set:
		if a.N < -api.MaxNumber || a.N > api.MaxNumber {
			return refuse(api.ErrRange)
		}
		me.registers[a.A] = cell{number: a.N}
		return me.registers[a.A].answer()
	case api.Copy:
		if !within(a.N, api.MaxThreads) {
			return refuse(api.ErrRange)
		}
		if a.N != a.T && (me.open || o.threads[a.N].open) {
			return refuse(api.ErrState)
		}
		me.registers[a.A] = o.threads[a.N].registers[a.B]
	case api.Same:
		return api.Answer{Yes: me.registers[a.A] == me.registers[a.B]}
	default:
		return o.access(a)
	}
	return api.Answer{}
}

// bound of a transaction, that is possible here: it begins or ends.
func (o *model) bound(a api.Act) api.Errno {
	me := &o.threads[a.T]
	if a.Kind == api.Begin {
		*me = actor{open: true, registers: me.registers, saved: me.registers}
		return api.OK
	}
	if a.Kind == api.Abort {
		o.undo(a.T)
		return api.OK
	}
	for _, s := range me.seen {
		if s.at.version != s.version || s.at.owner >= 0 && s.at.owner != a.T {
			o.undo(a.T)
			return api.ErrBusy
		}
	}
	for _, x := range o.ownedBy(a.T) {
		x.version++
		x.owner = -1
	}
	*me = actor{registers: me.registers}
	return api.OK
}

// ownedBy looks at removed objects too, if a log has them.
func (o *model) ownedBy(t int) []*thing {
	var l []*thing
	for _, c := range o.threads[t].log {
		if !slices.Contains(l, c.at) {
			l = append(l, c.at)
		}
	}
	return l
}

func (o *model) undo(t int) {
	me := &o.threads[t]
	for _, c := range slices.Backward(me.log) {
		c.at.fields[c.n] = c.before
		c.at.owner = -1
	}
	*me = actor{registers: me.saved}
}

func (o *model) access(a api.Act) api.Answer {
	me := &o.threads[a.T]
	if !me.open {
		return api.Answer{Code: api.ErrState}
	}
	x := me.registers[a.B].ref
	if a.Kind == api.Put {
		x = me.registers[a.A].ref
	}
	switch {
	case x == nil:
		return api.Answer{Code: api.ErrType}
	case a.N < 0 || a.N >= len(x.fields):
		return api.Answer{Code: api.ErrNone}
	case x.owner >= 0 && x.owner != a.T:
		o.undo(a.T)
		return api.Answer{Code: api.ErrBusy}
	case a.Kind == api.Put:
		me.log = append(me.log, change{x, a.N, x.fields[a.N]})
		x.owner = a.T
		x.fields[a.N] = me.registers[a.B]
		return api.Answer{}
	}
	if x.owner != a.T && !slices.ContainsFunc(me.seen, func(s sight) bool { return s.at == x }) {
		me.seen = append(me.seen, sight{x, x.version})
	}
	me.registers[a.A] = x.fields[a.N]
	return me.registers[a.A].answer()
}

// held by threads: what registers refer to, what undoing would bring back, and what has been read or changed.
func (o *model) held() []*thing {
	var l []*thing
	for t, me := range o.threads {
		for _, c := range append(me.registers[:], me.saved[:]...) {
			l = append(l, c.ref)
		}
		for _, s := range me.seen {
			l = append(l, s.at)
		}
		l = append(l, o.ownedBy(t)...)
		for i, c := range me.log {
			first := !slices.ContainsFunc(me.log[:i], func(d change) bool { return d.at == c.at && d.n == c.n })
			if first {
				l = append(l, c.before.ref)
			}
		}
	}
	return slices.DeleteFunc(l, func(x *thing) bool { return x == nil })
}

func (o *model) collect() api.Answer {
	if o.going {
		return api.Answer{Code: api.ErrState}
	}
	o.going, o.examined, o.retained = true, 0, nil
	o.old = slices.Clone(o.things)
	for open := o.held(); len(open) > 0; open = open[1:] {
		if slices.Contains(o.retained, open[0]) {
			continue
		}
		o.retained = append(o.retained, open[0])
		for _, c := range open[0].fields {
			if c.ref != nil {
				open = append(open, c.ref)
			}
		}
	}
	return api.Answer{}
}

func (o *model) step(n int) api.Answer {
	if n < 1 || n > api.MaxWords {
		return api.Answer{Code: api.ErrRange}
	}
	if !o.going {
		return api.Answer{Code: api.ErrState}
	}
	o.examined = min(o.examined+n, len(o.retained))
	if o.examined < len(o.retained) {
		return api.Answer{}
	}
	before := o.used()
	o.things = slices.DeleteFunc(o.things, func(x *thing) bool {
		return slices.Contains(o.old, x) && !slices.Contains(o.retained, x)
	})
	o.going = false
	return api.Answer{Freed: before - o.used()}
}

// heap with the model's objects: the oldest first. The state of one that has an owner is left out: the document names no value for it.
func (o *model) heap() api.Heap {
	h := api.Heap{Words: make([]int, o.words), Top: 1}
	places := map[*thing]int{}
	for _, x := range o.things {
		places[x] = h.Top
		h.Top += api.Head + len(x.fields)
	}
	for _, x := range o.things {
		p := places[x]
		if x.owner < 0 {
			h.Words[p] = 2 * x.version
		}
		h.Words[p+1] = len(x.fields)
		for n, c := range x.fields {
			h.Words[p+api.Head+n] = 2 * c.number
			if c.ref != nil {
				h.Words[p+api.Head+n] = 2*places[c.ref] + 1
			}
		}
	}
	return h
}

// withoutOwned: the heap, with 0 as the state of each object that the model says has an owner.
func (o *model) withoutOwned(h api.Heap) api.Heap {
	words := slices.Clone(h.Words)
	p := 1
	for _, x := range o.things {
		if x.owner >= 0 && p < len(words) {
			words[p] = 0
		}
		p += api.Head + len(x.fields)
	}
	return api.Heap{Words: words, Top: h.Top}
}
