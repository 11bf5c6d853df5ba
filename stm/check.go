package stm

import "limewash/api"

// firstError of an act: what is checked before the state of its thread.
func firstError(a api.Act) api.Errno {
	if a.Kind < api.Begin || a.Kind > api.Stat {
		return api.ErrKind
	}
	if usesThread(a.Kind) && !isThread(a.T) ||
		usesA(a.Kind) && !isRegister(a.A) ||
		usesB(a.Kind) && !isRegister(a.B) ||
		a.Kind == api.Copy && !isThread(a.N) {
		return api.ErrRange
	}
	return api.OK
}

func isThread(t int) bool { return t >= 0 && t < api.MaxThreads }

func isRegister(r int) bool { return r >= 0 && r < api.Registers }

func usesThread(kind int) bool {
	return kind != api.Collect && kind != api.Step && kind != api.Stat
}

// usesA: does A of such an act name a register?
func usesA(kind int) bool {
	return kind == api.New || kind == api.Set || usesB(kind)
}

// usesB: does B of such an act name a register?
func usesB(kind int) bool {
	return kind == api.Get || kind == api.Put || kind == api.Copy || kind == api.Same
}
