package tests

import (
	"fmt"
	"slices"
	"testing"

	"loop.example/g00740/impl"
)

func TestWordsAndTheirLimits(t *testing.T) {
	words := []int{
		impl.WdMake, impl.WdDrop, impl.WdInfo, impl.WdKids, impl.WdRoom, impl.WdPeek,
		impl.WdPoke, impl.WdFill, impl.WdMap, impl.WdUnmap, impl.WdLoad, impl.WdStore,
	}
	for i, word := range words {
		same(t, "a word", word, i+1)
	}
	same(t, "MaxCalls", impl.MaxCalls, 60)
}

func TestMachineNewByHand(t *testing.T) {
	out := impl.MachineNew(5)
	root := impl.Handle{Id: permuteByWords(162, 0)}
	same(t, "code", out.Code, int64(impl.OK))
	alike(t, "no reply", out.Reply, impl.Reply{})
	alike(t, "the kernel", out.Machine.Kernel, impl.KernelNew(5).Kernel)
	told := make([][]impl.Handle, 16)
	told[0] = []impl.Handle{root}
	alike(t, "told", out.Machine.Told, told)
	same(t, "right", impl.MachineRight(out.Machine), true)
	same(t, "new memory", newMemory(out, impl.MachineNew(5)), true)
}

// bench is a machine on which one call after the other is done, each held against the document's words.
type bench struct {
	t *testing.T
	m impl.Machine
}

func newBench(t *testing.T, seed int64) *bench {
	t.Helper()
	return &bench{t: t, m: impl.MachineNew(seed).Machine}
}

func (b *bench) do(c impl.Call) impl.Reply {
	b.t.Helper()
	out := called(b.t, b.m, c)
	if out.Code != impl.OK {
		b.t.Fatalf("%+v: code %d", c, out.Code)
	}
	b.m = out.Machine
	return out.Reply
}

// makes is a Make that must be OK, and where its Handle was told.
func (b *bench) makes(who int64, box impl.Ref, kind int64, of int64, order int64) impl.Ref {
	b.t.Helper()
	r := b.do(impl.Call{Who: who, Word: impl.WdMake, A: box, X: kind, Y: of, Z: order})
	if r.Code != impl.OK {
		b.t.Fatalf("make of kind %d by %d: code %d", kind, who, r.Code)
	}
	return impl.Ref{Label: who, N: int64(len(b.m.Told[who]) - 1)}
}

// is asks for the reply of a call.
func (b *bench) is(what string, c impl.Call, want impl.Reply) {
	b.t.Helper()
	alike(b.t, what, b.do(c), want)
}

// fails asks that a call is told a code, and leaves the machine as it was.
func (b *bench) fails(what string, c impl.Call, code int64) {
	b.t.Helper()
	before := fmt.Sprintf("%+v", b.m)
	b.is(what, c, impl.Reply{Code: code})
	same(b.t, what+": as it was", fmt.Sprintf("%+v", b.m), before)
}

func (b *bench) name(r impl.Ref) impl.Handle {
	return b.m.Told[r.Label][r.N]
}

// The twelve words, each with what it takes, and other numbers in what it does not take.
func TestTheTwelveWordsByHand(t *testing.T) {
	b := newBench(t, 5)
	root := impl.Ref{}
	b.makes(0, root, impl.KdSeg, 0, 1)
	box := b.makes(0, root, impl.KdBox, 1, 3)
	same(t, "where it was told", box, impl.Ref{Label: 0, N: 2})
	low := b.makes(1, box, impl.KdSeg, 1, 0)
	seg := b.makes(1, box, impl.KdSeg, 3, 1)
	space := b.makes(1, box, impl.KdSpace, 1, 0)
	same(t, "where it was told", space, impl.Ref{Label: 1, N: 2})
	alike(t, "as it was asked for", impl.Find(b.m.Kernel, b.name(seg)), impl.Obj{Kind: impl.KdSeg, Of: 3, Order: 1, At: 10, Up: b.name(box)})

	b.is("info", impl.Call{Who: 3, Word: impl.WdInfo, A: seg, X: 8, Y: 9, Z: 7}, impl.Reply{N: 312})
	b.is("kids", impl.Call{Who: 1, Word: impl.WdKids, A: box, X: 2}, impl.Reply{Handles: []impl.Handle{b.name(low), b.name(seg), b.name(space)}})
	b.is("room", impl.Call{Who: 1, Word: impl.WdRoom, A: box, Z: 4}, impl.Reply{N: 5})
	b.is("poke", impl.Call{Who: 1, Word: impl.WdPoke, A: low, X: 1, Y: 77, Z: 3}, impl.Reply{})
	b.is("peek", impl.Call{Who: 1, Word: impl.WdPeek, A: low, X: 1, Y: 99}, impl.Reply{N: 77})
	b.is("peek", impl.Call{Who: 1, Word: impl.WdPeek, A: low, X: 0}, impl.Reply{})
	b.is("fill", impl.Call{Who: 2 + 1, Word: impl.WdFill, A: seg, X: 999999, Y: 61, Z: 5}, impl.Reply{})
	b.is("peek", impl.Call{Who: 3, Word: impl.WdPeek, A: seg, X: 3}, impl.Reply{N: 61})
	b.is("map", impl.Call{Who: 1, Word: impl.WdMap, A: space, B: seg, X: 4, Y: 1, Z: 9}, impl.Reply{})
	maps(t, "mapped", b.m.Kernel, b.name(space), impl.Map{Va: 4, Seg: b.name(seg), Page: 1})
	b.is("map", impl.Call{Who: 1, Word: impl.WdMap, A: space, B: low, X: 6, Y: 0}, impl.Reply{})
	b.is("store", impl.Call{Who: 1, Word: impl.WdStore, A: space, X: 4, Y: 0, Z: 500, B: low}, impl.Reply{})
	fasts(t, "fast", b.m.Kernel, b.name(space), impl.Fast{Va: 4, Seg: b.name(seg), Page: 1, At: 11})
	b.is("peek", impl.Call{Who: 3, Word: impl.WdPeek, A: seg, X: 2}, impl.Reply{N: 500})
	b.is("load", impl.Call{Who: 1, Word: impl.WdLoad, A: space, X: 6, Y: 1, Z: 800}, impl.Reply{N: 77})
	b.is("unmap", impl.Call{Who: 1, Word: impl.WdUnmap, A: space, X: 4, Y: 6}, impl.Reply{})
	maps(t, "unmapped", b.m.Kernel, b.name(space), impl.Map{Va: 6, Seg: b.name(low)})
	b.is("drop", impl.Call{Who: 1, Word: impl.WdDrop, A: low, B: seg, X: 1}, impl.Reply{})
	alike(t, "gone", impl.Find(b.m.Kernel, b.name(low)), impl.Obj{})
	b.is("room", impl.Call{Who: 1, Word: impl.WdRoom, A: box}, impl.Reply{N: 6})
	same(t, "what was told stays told", len(b.m.Told[1]), 3)

	fast := fmt.Sprintf("%+v", b.m)
	b.is("load of what is gone", impl.Call{Who: 1, Word: impl.WdLoad, A: space, X: 6}, impl.Reply{Code: impl.ErrNone})
	same(t, "its Fast goes", fmt.Sprintf("%+v", b.m) == fast, false)
	fasts(t, "its Fast goes", b.m.Kernel, b.name(space))
	b.fails("and then nothing", impl.Call{Who: 1, Word: impl.WdLoad, A: space, X: 6}, impl.ErrNone)
	again := b.makes(1, box, impl.KdSeg, 1, 0)
	same(t, "in the slot of what is gone", b.name(again), impl.Handle{By: 1, Id: permuteByWords(162+977, 3), Gen: 1})
	same(t, "behind what was told", again, impl.Ref{Label: 1, N: 3})
}

// functionOf is what the function of chapters 7 to 9 tells.
func functionOf(k impl.Kernel, c impl.Call, a impl.Handle, b impl.Handle) impl.KernOut {
	return []func() impl.KernOut{
		func() impl.KernOut { return impl.Make(k, c.Who, a, c.X, c.Y, c.Z) },
		func() impl.KernOut { return impl.Drop(k, c.Who, a) },
		func() impl.KernOut { return impl.InfoOf(k, c.Who, a) },
		func() impl.KernOut { return impl.KidsOf(k, c.Who, a) },
		func() impl.KernOut { return impl.RoomOf(k, c.Who, a) },
		func() impl.KernOut { return impl.Peek(k, c.Who, a, c.X) },
		func() impl.KernOut { return impl.Poke(k, c.Who, a, c.X, c.Y) },
		func() impl.KernOut { return impl.Fill(k, c.Who, a, c.Y) },
		func() impl.KernOut { return impl.MapIn(k, c.Who, a, c.X, b, c.Y) },
		func() impl.KernOut { return impl.MapOut(k, c.Who, a, c.X) },
		func() impl.KernOut { return impl.Load(k, c.Who, a, c.X, c.Y) },
		func() impl.KernOut { return impl.Store(k, c.Who, a, c.X, c.Y, c.Z) },
	}[c.Word-1]()
}

// someArgs are what X, Y and Z may be, that do something with one word or another.
var someArgs = [][3]int64{
	{1, 1, 0}, {2, 3, 1}, {3, 15, 0}, {1, 7, 5}, {0, 1, 2}, {3, 0, 65535}, {0, 0, 7}, {7, 1, 9}, {4, 2, 65536}, {8, 31, 1}, {1, 32, 3}, {0, 65535, 4}, {3, 65536, 0},
}

// Each word tells what its function tells, and leaves the kernel that this leaves, or, if it tells none, the one that was.
func TestEachWordIsItsFunction(t *testing.T) {
	t.Parallel()
	hall := fastHall(t)
	hall.k = impl.Drop(hall.k, 1, hall.mid).Kernel // so that something is stale
	codes := map[int64]map[int64]int{}
	for _, k := range []impl.Kernel{newTown(t).k, hall.k} {
		m := machineOf(k)
		for _, h := range liveOf(k) {
			a := refOf(m, h)
			o := impl.Find(k, h)
			for word := int64(1); word <= 12; word++ {
				if codes[word] == nil {
					codes[word] = map[int64]int{}
				}
				for n, xyz := range someArgs {
					for _, who := range []int64{h.By, o.Of, 15, 8} {
						b := refOf(m, liveOf(k)[n%len(liveOf(k))])
						c := impl.Call{Who: who, Word: word, A: a, B: b, X: xyz[0], Y: xyz[1], Z: xyz[2]}
						out := impl.CallDo(m, c)
						want := functionOf(k, c, impl.Named(m, who, a), impl.Named(m, who, b))
						alike(t, "reply", out.Reply, impl.Reply{Code: want.Code, N: want.N, Handle: want.Handle, Handles: want.Handles})
						if len(want.Kernel.Arenas) == 0 {
							want.Kernel = k
						}
						alike(t, "kernel", out.Machine.Kernel, want.Kernel)
						onlyItsOwn(t, fmt.Sprintf("%+v", c), word, out.Reply)
						toldBehind(t, fmt.Sprintf("%+v", c), m, c, out)
						codes[word][out.Reply.Code]++
					}
				}
			}
		}
		if t.Failed() {
			t.FailNow()
		}
	}
	for word, some := range codes {
		if some[impl.OK] == 0 || some[impl.ErrNone] == 0 {
			t.Errorf("word %d: only %v", word, some)
		}
	}
}

// Make puts its Handle behind Who's Told and behind no other list, for each label that can make something.
func TestMakeTellsWho(t *testing.T) {
	b := newBench(t, 77)
	for who := range int64(16) {
		box := impl.Ref{}
		if who > 0 {
			box = b.makes(0, impl.Ref{}, impl.KdBox, who, 0)
		}
		for range 3 {
			before := copyMachine(b.m).Told
			r := b.do(impl.Call{Who: who, Word: impl.WdMake, A: box, X: impl.KdSpace, Y: 15})
			before[who] = append(before[who], r.Handle)
			alike(t, "behind Who's, and no other", b.m.Told, before)
			ref := impl.Ref{Label: who, N: int64(len(before[who]) - 1)}
			for other := range int64(16) {
				want := impl.Handle{Gen: 3}
				if flowsByLetters(who, other) {
					want = r.Handle
				}
				same(t, "named", impl.Named(b.m, other, ref), want)
			}
			b.is("dropped by its name", impl.Call{Who: who, Word: impl.WdDrop, A: ref}, impl.Reply{})
			alike(t, "what was told stays told", b.m.Told, before)
		}
		if who > 0 {
			b.is("its box", impl.Call{Who: 0, Word: impl.WdDrop, A: box}, impl.Reply{})
		}
		if who%2 == 1 {
			b = newBench(t, 77+who) // else the slots of 0 are used up
		}
	}
}

// A Make that is refused tells nobody a name, and uses none up.
func TestAMakeThatIsRefusedTellsNothing(t *testing.T) {
	b := newBench(t, 9)
	root := impl.Ref{}
	box := b.makes(0, root, impl.KdBox, 2, 1)
	for what, c := range map[string]impl.Call{
		"form: the kind":       {Word: impl.WdMake, X: 4, Y: 0},
		"form: no kind":        {Word: impl.WdMake, X: 0, Y: 0},
		"form: the label":      {Word: impl.WdMake, X: 1, Y: 16},
		"form: does not flow":  {Who: 2, Word: impl.WdMake, A: box, X: 1, Y: 1},
		"form: the order":      {Word: impl.WdMake, X: 1, Z: 6},
		"form: a space's":      {Word: impl.WdMake, X: 3, Z: 1},
		"form ahead of none":   {Who: 9, Word: impl.WdMake, A: impl.Ref{N: 999}, X: 9},
		"form far beyond":      {Word: impl.WdMake, X: 999999, Y: 999999, Z: 999999},
		"form: only the order": {Who: 2, Word: impl.WdMake, A: box, X: 2, Y: 2, Z: 999999},
	} {
		b.fails(what, c, impl.ErrForm)
	}
	b.fails("none: not Who's box", impl.Call{Who: 1, Word: impl.WdMake, A: box, X: 2, Y: 15}, impl.ErrNone)
	b.fails("none: no such box", impl.Call{Who: 2, Word: impl.WdMake, A: impl.Ref{N: 2}, X: 2, Y: 15}, impl.ErrNone)
	b.fails("full: no such block", impl.Call{Who: 2, Word: impl.WdMake, A: box, X: 2, Y: 15, Z: 2}, impl.ErrFull)
	for range impl.MaxSlots {
		b.makes(2, box, impl.KdSpace, 2, 0)
	}
	b.fails("full: no slot", impl.Call{Who: 2, Word: impl.WdMake, A: box, X: 2, Y: 15}, impl.ErrFull)
	same(t, "told", len(b.m.Told[2]), impl.MaxSlots)
	b.is("one goes", impl.Call{Who: 2, Word: impl.WdDrop, A: impl.Ref{Label: 2, N: 4}}, impl.Reply{})
	next := b.makes(2, box, impl.KdSpace, 2, 0)
	same(t, "no name was used up", b.name(next), impl.Handle{By: 2, Id: permuteByWords(9*31+2*977+7, 6), Gen: 1})

	there := copyMachine(b.m)
	there.Kernel.Arenas[2].Names.Count = 0
	there = called(t, there, impl.Call{Who: 2, Word: impl.WdDrop, A: impl.Ref{Label: 2, N: 5}}).Machine
	out := called(t, there, impl.Call{Who: 2, Word: impl.WdMake, A: box, X: 3, Y: 2})
	alike(t, "there: the next name is one's already", out.Reply, impl.Reply{Code: impl.ErrThere})
	alike(t, "there: as it was", out.Machine, there)
}

// What a call does not take is not asked: whatever else is in a right call, it tells the same.
func TestWhatACallDoesNotTake(t *testing.T) {
	w := fastHall(t)
	m := machineOf(w.k)
	for _, one := range []struct {
		c       impl.Call
		b       bool // it takes B
		x, y, z bool
	}{
		{impl.Call{Who: 1, Word: impl.WdMake, A: refOf(m, w.box), X: 3, Y: 1}, false, true, true, true},
		{impl.Call{Who: 1, Word: impl.WdDrop, A: refOf(m, w.wide)}, false, false, false, false},
		{impl.Call{Who: 1, Word: impl.WdInfo, A: refOf(m, w.wide)}, false, false, false, false},
		{impl.Call{Who: 1, Word: impl.WdKids, A: refOf(m, w.box)}, false, false, false, false},
		{impl.Call{Who: 1, Word: impl.WdRoom, A: refOf(m, w.box)}, false, false, false, false},
		{impl.Call{Who: 1, Word: impl.WdPeek, A: refOf(m, w.wide), X: 2}, false, true, false, false},
		{impl.Call{Who: 1, Word: impl.WdPoke, A: refOf(m, w.wide), X: 2, Y: 5}, false, true, true, false},
		{impl.Call{Who: 1, Word: impl.WdFill, A: refOf(m, w.wide), Y: 5}, false, false, true, false},
		{impl.Call{Who: 1, Word: impl.WdMap, A: refOf(m, w.desk), B: refOf(m, w.low), X: 2, Y: 1}, true, true, true, false},
		{impl.Call{Who: 1, Word: impl.WdUnmap, A: refOf(m, w.deck), X: 3}, false, true, false, false},
		{impl.Call{Who: 1, Word: impl.WdLoad, A: refOf(m, w.deck), X: 3, Y: 1}, false, true, true, false},
		{impl.Call{Who: 1, Word: impl.WdStore, A: refOf(m, w.deck), X: 3, Y: 1, Z: 8}, false, true, true, true},
	} {
		want := called(t, m, one.c)
		same(t, "ok", want.Reply.Code, int64(impl.OK))
		for _, n := range []int64{0, 1, 7, 70000, 999999} {
			for _, ref := range []impl.Ref{{}, {Label: 15, N: 999}, {Label: 1, N: n % 1000}} {
				c := one.c
				if !one.b {
					c.B = ref
				}
				for place, takes := range map[*int64]bool{&c.X: one.x, &c.Y: one.y, &c.Z: one.z} {
					if !takes {
						*place = n
					}
				}
				alike(t, fmt.Sprintf("%+v", c), impl.CallDo(m, c), want)
			}
		}
	}
}

// Promise 13: names are told once, in whatever order things are made and dropped, till no slot is left.
func TestNoNameIsToldTwiceTillAllAreUsedUp(t *testing.T) {
	b := newBench(t, 31)
	box := b.makes(0, impl.Ref{}, impl.KdBox, 5, 3)
	var names []impl.Handle
	for range impl.MaxSlots * impl.MaxGen {
		kind := int64(1 + len(names)%3)
		ref := b.makes(5, box, kind, 7, 0)
		same(t, "a name that never was", slices.Contains(names, b.name(ref)), false)
		names = append(names, b.name(ref))
		b.is("room", impl.Call{Who: 5, Word: impl.WdRoom, A: box}, impl.Reply{N: []int64{7, 7, 8}[kind-1]})
		b.is("drop", impl.Call{Who: 5, Word: impl.WdDrop, A: ref}, impl.Reply{})
		b.is("room", impl.Call{Who: 5, Word: impl.WdRoom, A: box}, impl.Reply{N: 8})
		for n := range names {
			b.fails("gone", impl.Call{Who: 5, Word: impl.WdInfo, A: impl.Ref{Label: 5, N: int64(n)}}, impl.ErrNone)
		}
	}
	b.fails("all are used up", impl.Call{Who: 5, Word: impl.WdMake, A: box, X: 3, Y: 7}, impl.ErrFull)
	same(t, "all that were told", b.m.Told[5], names)
}
