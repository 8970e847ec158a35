package tests

import (
	"fmt"
	"slices"
	"testing"

	"loop.example/g00740/impl"
)

// The calls of chapter 10, told once more by the document's words alone.

func copyMachine(m impl.Machine) impl.Machine {
	out := impl.Machine{Kernel: copyKernel(m.Kernel)}
	for _, list := range m.Told {
		out.Told = append(out.Told, slices.Clone(list))
	}
	return out
}

func machineNewByWords(seed int64) impl.CallOut {
	fresh := kernelNewByWords(seed)
	if fresh.Code != impl.OK {
		return impl.CallOut{Code: impl.ErrForm}
	}
	told := make([][]impl.Handle, 16)
	told[0] = []impl.Handle{fresh.Handle}
	return impl.CallOut{Machine: impl.Machine{Kernel: fresh.Kernel, Told: told}}
}

func machineRightByWords(m impl.Machine) bool {
	long := func(list []impl.Handle) bool { return len(list) > 400 }
	return kernelRightByWords(m.Kernel) && len(m.Told) == 16 && !slices.ContainsFunc(m.Told, long) && len(m.Told[0]) > 0
}

func between(n int64, from int64, to int64) bool {
	return n >= from && n <= to
}

func callRightByWords(c impl.Call) bool {
	for _, r := range []impl.Ref{c.A, c.B} {
		if !between(r.Label, 0, 15) || !between(r.N, 0, 999) {
			return false
		}
	}
	for _, n := range []int64{c.X, c.Y, c.Z} {
		if !between(n, 0, 999999) {
			return false
		}
	}
	return between(c.Who, 0, 15) && between(c.Word, 1, 12)
}

func namedByWords(m impl.Machine, who int64, r impl.Ref) impl.Handle {
	if !machineRightByWords(m) || !between(who, 0, 15) {
		return impl.Handle{}
	}
	if between(r.Label, 0, 15) && flowsByLetters(r.Label, who) {
		for n, h := range m.Told[r.Label] {
			if int64(n) == r.N {
				return h
			}
		}
	}
	return impl.Handle{By: 0, Id: 0, Gen: 3}
}

// wordByWords is what the function of chapters 7 to 9 tells by its own words.
func wordByWords(k impl.Kernel, c impl.Call, a impl.Handle, b impl.Handle) impl.KernOut {
	kids, room := insideByWords(k, c.Who, a)
	switch c.Word {
	case 1:
		return makeByWords(k, c.Who, a, c.X, c.Y, c.Z)
	case 2:
		return dropThingByWords(k, c.Who, a)
	case 3:
		return infoByWords(k, c.Who, a)
	case 4:
		return kids
	case 5:
		return room
	case 6:
		return peekByWords(k, c.Who, a, c.X)
	case 7:
		return pokeByWords(k, c.Who, a, c.X, c.Y)
	case 8:
		return fillByWords(k, c.Who, a, c.Y)
	case 9:
		return mapInByWords(k, c.Who, a, c.X, b, c.Y)
	case 10:
		return mapOutByWords(k, c.Who, a, c.X)
	case 11:
		return loadByWords(k, c.Who, a, c.X, c.Y)
	}
	return storeByWords(k, c.Who, a, c.X, c.Y, c.Z)
}

func callByWords(m impl.Machine, c impl.Call) impl.CallOut {
	if !machineRightByWords(m) || !callRightByWords(c) {
		return impl.CallOut{Code: impl.ErrForm}
	}
	told := wordByWords(m.Kernel, c, namedByWords(m, c.Who, c.A), namedByWords(m, c.Who, c.B))
	next := copyMachine(m)
	if told.Code == impl.OK || (c.Word == 11 || c.Word == 12) && len(told.Kernel.Arenas) > 0 {
		next.Kernel = copyKernel(told.Kernel)
	}
	if c.Word == 1 && told.Code == impl.OK {
		next.Told[c.Who] = append(next.Told[c.Who], told.Handle)
	}
	reply := impl.Reply{Code: told.Code, N: told.N, Handle: told.Handle, Handles: slices.Clone(told.Handles)}
	return impl.CallOut{Machine: next, Reply: reply}
}

func runByWords(seed int64, l []impl.Call) impl.RunOut {
	if len(l) > 400 {
		return impl.RunOut{Code: impl.ErrSize}
	}
	wrong := func(c impl.Call) bool { return !callRightByWords(c) }
	if !between(seed, 0, 65535) || len(l) > 60 || slices.ContainsFunc(l, wrong) {
		return impl.RunOut{Code: impl.ErrForm}
	}
	out := impl.RunOut{Machine: machineNewByWords(seed).Machine}
	for _, c := range l {
		one := callByWords(out.Machine, c)
		out.Machine = one.Machine
		out.Replies = append(out.Replies, one.Reply)
	}
	return out
}

// called is a CallDo, held against the document's words; what it tells must be a reply that its word may have, the answer
// is new memory, and what is handed in stays.
func called(t *testing.T, m impl.Machine, c impl.Call) impl.CallOut {
	t.Helper()
	before := fmt.Sprintf("%+v", m)
	got := impl.CallDo(m, c)
	what := fmt.Sprintf("%+v", c)
	alike(t, what, got, callByWords(m, c))
	same(t, what+": handed in, not changed", fmt.Sprintf("%+v", m), before)
	same(t, what+": new memory", newMemory(got, m), true)
	if got.Code != impl.OK {
		alike(t, what+": refused, all else is zero", got, impl.CallOut{Code: impl.ErrForm})
		return got
	}
	same(t, what+": right", impl.MachineRight(got.Machine), true)
	onlyItsOwn(t, what, c.Word, got.Reply)
	toldBehind(t, what, m, c, got)
	if got.Reply.Code != impl.OK && len(impl.Stale(m.Kernel, impl.Named(m, c.Who, c.A))) == 0 {
		same(t, what+": a code, and nothing has changed", fmt.Sprintf("%+v", got.Machine), before)
	}
	return got
}

// onlyItsOwn asks that what a word does not tell is zero in its reply.
func onlyItsOwn(t *testing.T, what string, word int64, r impl.Reply) {
	t.Helper()
	if r.Code != impl.OK {
		alike(t, what+": a code alone", r, impl.Reply{Code: r.Code})
		return
	}
	switch word {
	case impl.WdMake:
		alike(t, what+": a Handle alone", r, impl.Reply{Handle: r.Handle})
	case impl.WdKids:
		alike(t, what+": Handles alone", r, impl.Reply{Handles: r.Handles})
	case impl.WdInfo, impl.WdRoom, impl.WdPeek, impl.WdLoad:
		alike(t, what+": N alone", r, impl.Reply{N: r.N})
	default:
		alike(t, what+": nothing at all", r, impl.Reply{})
	}
}

// toldBehind asks that Make puts its Handle behind Who's Told, if it is OK, and that nothing else is told to anyone.
func toldBehind(t *testing.T, what string, m impl.Machine, c impl.Call, got impl.CallOut) {
	t.Helper()
	want := copyMachine(m).Told
	if c.Word == impl.WdMake && got.Reply.Code == impl.OK {
		want[c.Who] = append(want[c.Who], got.Reply.Handle)
	}
	alike(t, what+": what is told", got.Machine.Told, want)
}

// ran is a RunCalls, held against the document's words, and against the calls one by one.
func ran(t *testing.T, seed int64, l []impl.Call) impl.RunOut {
	t.Helper()
	before := slices.Clone(l)
	got := impl.RunCalls(seed, l)
	alike(t, "run", got, runByWords(seed, l))
	same(t, "run: handed in, not changed", slices.Equal(l, before), true)
	same(t, "run: new memory", newMemory(got, l), true)
	if got.Code != impl.OK {
		alike(t, "run: refused, all else is zero", got, impl.RunOut{Code: got.Code})
		return got
	}
	m := impl.MachineNew(seed).Machine
	same(t, "run: a reply for each call", len(got.Replies), len(l))
	for i, c := range l {
		out := impl.CallDo(m, c)
		alike(t, "run: each reply", got.Replies[i], out.Reply)
		m = out.Machine
	}
	alike(t, "run: what comes of it", got.Machine, m)
	same(t, "run: right", impl.MachineRight(got.Machine), true)
	return got
}

// machineOf is a machine of that kernel in which all is told to the labels that made it.
func machineOf(k impl.Kernel) impl.Machine {
	m := impl.Machine{Kernel: k, Told: make([][]impl.Handle, 16)}
	for _, h := range liveOf(k) {
		m.Told[h.By] = append(m.Told[h.By], h)
	}
	return m
}

// refOf is where a handle was told; a Ref that names nothing, if it was not.
func refOf(m impl.Machine, h impl.Handle) impl.Ref {
	for label, list := range m.Told {
		if n := slices.Index(list, h); n >= 0 {
			return impl.Ref{Label: int64(label), N: int64(n)}
		}
	}
	return impl.Ref{Label: 0, N: 999}
}
