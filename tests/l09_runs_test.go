package tests

import (
	"fmt"
	"slices"
	"testing"

	"loop.example/g00740/impl"
)

// goneOf are the names that were told, and are none any more.
func goneOf(m impl.Machine) []impl.Handle {
	var out []impl.Handle
	for _, list := range m.Told {
		for _, h := range list {
			if slotOf(m.Kernel, h) == nil {
				out = append(out, h)
			}
		}
	}
	return out
}

// drawnWords are the words that are drawn, some more often than others: few loads find something else.
var drawnWords = []int64{1, 2, 3, 4, 5, 6, 7, 8, 9, 9, 9, 9, 10, 11, 11, 11, 11, 11, 12, 12, 12, 12, 12}

// drawnCall is a call that does something as a rule, and that is not right now and then.
func drawnCall(d *dice, m impl.Machine) impl.Call {
	k, gone := m.Kernel, goneOf(m)
	c := impl.Call{Word: drawnWords[d.draw(len(drawnWords))], X: int64(d.draw(9)), Y: int64(d.draw(2)), Z: int64(d.draw(70000))}
	if many := len(liveOf(k)) + len(gone); d.draw(8) == 0 || many < 20 && d.draw(2) == 0 {
		c.Word = impl.WdMake
	}
	var a impl.Handle
	switch c.Word {
	case impl.WdMake:
		c, a = drawnMaking(d, k, gone)
	case impl.WdDrop:
		a = drawnToGo(d, k, gone)
		c.Who = a.By
	case impl.WdInfo, impl.WdKids, impl.WdRoom:
		a = someName(d, k, gone)
		if d.draw(2) == 0 {
			a = someBox(d, k)
		}
		c.Who = drawnWho(d, k, a)
	case impl.WdPeek, impl.WdPoke, impl.WdFill:
		a = someSeg(d, k, gone)
		c.Who, c.X = drawnWord(d, k, a)
		c.Y = int64(d.draw(70000))
	case impl.WdLoad, impl.WdStore:
		a, c.X = drawnLook(d, k, gone)
		c.Who = drawnWho(d, k, a)
	default:
		a = someSpace(d, k, gone)
		c.Who, c.X = drawnWho(d, k, a), drawnVa(d, k, a)
	}
	c.A = refOf(m, a)
	if c.Word == impl.WdMap {
		seg, page := drawnMap(d, k, a, gone)
		c.B, c.Y = refOf(m, seg), page
	}
	return turned(d, c)
}

// drawnMaking is a Make, and where: in the root a box of some label as a rule, else more often what is no box, of the label of
// who makes it.
func drawnMaking(d *dice, k impl.Kernel, gone []impl.Handle) (impl.Call, impl.Handle) {
	who, box, kind, of, order := drawnMake(d, k, gone)
	switch n := d.draw(9); {
	case n < 7 && box == rootByWords(k):
		kind, of, order = impl.KdBox, int64(1+d.draw(15)), int64(1+d.draw(3))
	case n < 3:
		kind, of, order = impl.KdSeg, who, int64(d.draw(2))
	case n < 6:
		kind, of, order = impl.KdSpace, who, 0
	}
	return impl.Call{Who: who, Word: impl.WdMake, X: kind, Y: of, Z: order}, box
}

// drawnLook is a place in a space: one at which something stands as a rule, and, if there is such a one, often what is stale.
func drawnLook(d *dice, k impl.Kernel, gone []impl.Handle) (impl.Handle, int64) {
	spaces := spacesOf(k)
	old := slices.DeleteFunc(slices.Clone(spaces), func(s impl.Handle) bool { return len(staleByWords(k, s)) == 0 })
	if len(old) > 0 && d.draw(3) == 0 {
		s := old[d.draw(len(old))]
		return s, staleByWords(k, s)[0]
	}
	busy := slices.DeleteFunc(spaces, func(s impl.Handle) bool { return len(slotOf(k, s).Obj.Maps) == 0 })
	if len(busy) > 0 && d.draw(10) > 0 {
		s := busy[d.draw(len(busy))]
		return s, drawnVa(d, k, s)
	}
	s := someSpace(d, k, gone)
	return s, drawnVa(d, k, s)
}

// drawnToGo is what is fast somewhere, or a thing in which there is not much, as a rule: else there would never be any.
func drawnToGo(d *dice, k impl.Kernel, gone []impl.Handle) impl.Handle {
	var fast []impl.Handle
	for _, s := range spacesOf(k) {
		for _, one := range slotOf(k, s).Obj.Fasts {
			if slotOf(k, one.Seg) != nil {
				fast = append(fast, one.Seg)
			}
		}
	}
	if len(fast) > 0 && d.draw(3) > 0 {
		return fast[d.draw(len(fast))]
	}
	h := someName(d, k, gone)
	for one := slotOf(k, h); isBox(one) && len(one.Obj.Kids) > 0 && d.draw(8) > 0; one = slotOf(k, h) {
		h = one.Obj.Kids[d.draw(len(one.Obj.Kids))]
	}
	return h
}

// turned is a call in which now and then one number is another one.
func turned(d *dice, c impl.Call) impl.Call {
	places := []*int64{&c.Who, &c.Who, &c.Word, &c.A.Label, &c.A.N, &c.B.Label, &c.B.N, &c.X, &c.Y, &c.Z}
	switch d.draw(12) {
	case 0:
		*places[d.draw(len(places))] = int64(d.draw(18) - 1)
	case 1:
		c.Who = int64(d.draw(16))
	case 2:
		c.A.N = int64(d.draw(8))
	}
	return c
}

// wholeBoxes asks whether the free pages and the parts of each box are all its pages, each once.
func wholeBoxes(t *testing.T, k impl.Kernel) {
	t.Helper()
	for _, h := range liveOf(k) {
		o := slotOf(k, h).Obj
		if o.Kind != impl.KdBox {
			continue
		}
		times := map[int64]int{}
		for _, page := range impl.FreePages(o.Room) {
			times[o.At+page]++
		}
		for _, kid := range o.Kids {
			if part := slotOf(k, kid).Obj; part.Kind != impl.KdSpace {
				for page := range sizeOf(part.Order) {
					times[part.At+page]++
				}
			}
		}
		same(t, "how many pages", int64(len(times)), sizeOf(o.Order))
		for page := o.At; page < o.At+sizeOf(o.Order); page++ {
			same(t, "each page once", times[page], 1)
		}
	}
}

// noneChanges tells what a call that was told that there is none has changed: nothing, or what was stale in its own space.
func noneChanges(t *testing.T, m impl.Machine, c impl.Call, out impl.CallOut) string {
	t.Helper()
	space := impl.Named(m, c.Who, c.A)
	own := (c.Word == impl.WdLoad || c.Word == impl.WdStore) && impl.Find(m.Kernel, space).Of == c.Who
	if own && slices.Contains(impl.Stale(m.Kernel, space), c.X) {
		want := copyMachine(m)
		withoutFast(&slotOf(want.Kernel, space).Obj, c.X)
		alike(t, "what was stale has gone, and nothing else", out.Machine, want)
		return "stale"
	}
	alike(t, "nothing has changed", out.Machine, m)
	return "none"
}

// Promises 11 and 13, in long runs of calls by several labels: the machine stays right, who is told that there is none has
// changed nothing but what was stale, no name is told twice, and each box has all its pages, each once.
func TestLongRunsOfCalls(t *testing.T) {
	t.Parallel()
	d := dice(49979687)
	many := map[string]int{}
	for range 45 {
		seed := int64(d.draw(65536))
		m := impl.MachineNew(seed).Machine
		ever := map[impl.Handle]bool{m.Told[0][0]: true}
		for range 200 {
			c := drawnCall(&d, m)
			out := called(t, m, c)
			if out.Code != impl.OK {
				many["refused"]++
				same(t, "refused just if it is not right", impl.CallRight(c), false)
				continue
			}
			many[fmt.Sprint(c.Word, " ", out.Reply.Code)]++
			if out.Reply.Code == impl.ErrNone {
				many[noneChanges(t, m, c, out)]++
			}
			if h := out.Reply.Handle; c.Word == impl.WdMake && out.Reply.Code == impl.OK {
				same(t, "no name is told twice", ever[h], false)
				same(t, "its By", h.By, c.Who)
				ever[h] = true
			}
			m = out.Machine
			wholeBoxes(t, m.Kernel)
			if t.Failed() {
				t.FailNow()
			}
		}
		same(t, "all that was told, each once", len(goneOf(m))+len(liveOf(m.Kernel)), len(ever))
	}
	want := []string{"refused", "none", "stale", "1 9", "6 8", "7 8", "1 1", "7 1", "8 1", "9 1", "12 1"}
	for word := 1; word <= 12; word++ {
		want = append(want, fmt.Sprint(word, " 0"), fmt.Sprint(word, " 6"))
	}
	cameUp(t, many, want...)
}

// Runs by RunCalls, each held against the document's words, and against the calls one by one.
func TestRunsByTheDocument(t *testing.T) {
	t.Parallel()
	d := dice(86028121)
	codes := map[int64]int{}
	for range 120 {
		seed := int64(d.draw(65536))
		m := impl.MachineNew(seed).Machine
		var l []impl.Call
		for range d.draw(61) {
			c := drawnCall(&d, m)
			if out := impl.CallDo(m, c); out.Code == impl.OK {
				m = out.Machine
			} else if d.draw(4) > 0 {
				continue // one that is not right spoils the whole run
			}
			l = append(l, c)
		}
		run := ran(t, seed, l)
		codes[run.Code]++
		told := map[impl.Handle]int{}
		for i, r := range run.Replies {
			if l[i].Word == impl.WdMake && r.Code == impl.OK {
				told[r.Handle]++
				same(t, "told once", told[r.Handle], 1)
			}
		}
		if run.Code == impl.OK {
			wholeBoxes(t, run.Machine.Kernel)
		}
		if t.Failed() {
			t.FailNow()
		}
	}
	if codes[impl.OK] < 20 || codes[impl.ErrForm] < 5 {
		t.Errorf("codes: %v", codes)
	}
}

// Machines that no run comes to, right or not: other names, words and Counts, anything told to anyone.
func TestMachinesByTheDocument(t *testing.T) {
	t.Parallel()
	d := dice(122949823)
	many := map[bool]int{}
	for round := range 120 {
		k := impl.KernelNew(int64(d.draw(65536))).Kernel
		for range d.draw(50) {
			k = stepped(&d, k)
		}
		if round%2 == 0 {
			k = shaken(&d, k)
		}
		if round%3 != 0 {
			k = shown(&d, k)
		}
		m := machineOf(k)
		for label := range m.Told {
			for range d.draw(4) {
				m.Told[label] = append(m.Told[label], someName(&d, k, nil))
			}
			if d.draw(3) == 0 {
				slices.Reverse(m.Told[label])
			}
		}
		whole := copyMachine(m)
		switch round % 10 {
		case 3:
			m.Told = m.Told[:d.draw(16)]
		case 6:
			spoil(&d, &m.Kernel.Arenas[d.draw(16)])
		case 9:
			m.Told[d.draw(16)] = make([]impl.Handle, 401)
		}
		right := machineRightByWords(m)
		many[right]++
		same(t, "right", impl.MachineRight(m), right)
		for range 60 {
			called(t, m, drawnCall(&d, whole))
		}
		if t.Failed() {
			t.FailNow()
		}
	}
	if many[true] < 60 || many[false] < 15 {
		t.Errorf("right and wrong: %v", many)
	}
}

// Whatever the numbers are, each call answers.
func TestWildCalls(t *testing.T) {
	t.Parallel()
	w := fastHall(t)
	m := machineOf(impl.Drop(w.k, 1, w.mid).Kernel)
	d := dice(141650939)
	wild := func() int64 {
		if d.draw(3) > 0 {
			return int64(d.draw(4))
		}
		return append([]int64{-1, 8, 15, 16, 999, 1000, 65535, 65536, 999999, 1000000}, wideNumbers...)[d.draw(20)]
	}
	right := 0
	for range 4000 {
		c := impl.Call{
			Who: wild(), Word: wild(), A: impl.Ref{Label: wild(), N: wild()}, B: impl.Ref{Label: wild(), N: wild()}, X: wild(), Y: wild(), Z: wild(),
		}
		if d.draw(2) == 0 {
			c.Word = int64(1 + d.draw(12))
		}
		if called(t, m, c).Code == impl.OK {
			right++
		}
		other := impl.Machine{Kernel: m.Kernel, Told: m.Told[:d.draw(17)]}
		same(t, "named", impl.Named(other, c.Who, c.A), namedByWords(other, c.Who, c.A))
		if t.Failed() {
			t.FailNow()
		}
	}
	if right < 100 {
		t.Errorf("only %d are right", right)
	}
}

// Lists that are shared in what is handed in, or have more behind them, are neither shared nor written on.
func TestSharedListsOfMachines(t *testing.T) {
	w := fastHall(t)
	k := impl.Drop(w.k, 1, w.mid).Kernel
	told := append(slices.Clone(machineOf(k).Told[1]), impl.Handle{Id: 1}, impl.Handle{Id: 2})
	lists := make([][]impl.Handle, 18)
	for label := range lists {
		lists[label] = told[:5]
	}
	lists[0] = []impl.Handle{w.root, w.porch, w.box, {Id: 3}, {Id: 4}}[:3]
	m := impl.Machine{Kernel: k, Told: lists[:16]}
	words := append(slices.Clone(k.Words), 5, 6)
	m.Kernel.Words = words[:64]
	same(t, "right", impl.MachineRight(m), true)
	toldWas, wordsWas, listsWas := slices.Clone(told), slices.Clone(words), fmt.Sprint(lists)
	for _, c := range []impl.Call{
		{Who: 1, Word: impl.WdMake, A: impl.Ref{N: 2}, X: impl.KdSpace, Y: 1},
		{Who: 0, Word: impl.WdMake, X: impl.KdSeg},
		{Who: 0, Word: impl.WdMake, X: impl.KdSeg, Z: 6},
		{Who: 0, Word: impl.WdDrop, A: impl.Ref{N: 2}},
		{Who: 0, Word: impl.WdDrop},
		{Who: 1, Word: impl.WdInfo, A: impl.Ref{N: 2}},
		{Who: 1, Word: impl.WdKids, A: impl.Ref{N: 2}},
		{Who: 1, Word: impl.WdRoom, A: impl.Ref{N: 2}},
		{Who: 1, Word: impl.WdPeek, A: refOf(m, w.low)},
		{Who: 1, Word: impl.WdPoke, A: refOf(m, w.low), Y: 6},
		{Who: 1, Word: impl.WdFill, A: refOf(m, w.low), Y: 6},
		{Who: 1, Word: impl.WdMap, A: refOf(m, w.deck), B: refOf(m, w.low), X: 1},
		{Who: 1, Word: impl.WdUnmap, A: refOf(m, w.deck), X: 7},
		{Who: 1, Word: impl.WdLoad, A: refOf(m, w.deck), X: 3},
		{Who: 1, Word: impl.WdLoad, A: refOf(m, w.deck), X: 5},
		{Who: 1, Word: impl.WdStore, A: refOf(m, w.deck), X: 4, Z: 6},
	} {
		first, second := called(t, m, c), called(t, m, c)
		what := fmt.Sprintf("%+v", c)
		same(t, what+": new memory", newMemory(first, m, lists, told, words, second), true)
		same(t, what+": behind what was told", told, toldWas)
		same(t, what+": behind the words", words, wordsWas)
		same(t, what+": behind the lists", fmt.Sprint(lists), listsWas)
		seen := fmt.Sprintf("%+v", second)
		first.Machine.Told[0][0].Id, first.Machine.Told[1][0].Id, first.Machine.Kernel.Words[20] = -7, -7, -7
		for _, a := range first.Machine.Kernel.Arenas {
			for i := range a.Slots {
				a.Slots[i].Gen = -7
				for j := range a.Slots[i].Obj.Kids {
					a.Slots[i].Obj.Kids[j].Id = -7
				}
			}
		}
		for i, h := range first.Reply.Handles {
			same(t, what+": another list of the answer", h.Id == -7, false)
			first.Reply.Handles[i].Id = -8
		}
		same(t, what+": another answer, not changed", fmt.Sprintf("%+v", second), seen)
		alike(t, what+": the same call tells the same", impl.CallDo(m, c), second)
	}
}

// A run's answer shares nothing with its calls, nor with another run's, nor two of its lists with each other.
func TestRunsAreNewMemory(t *testing.T) {
	l := append(rooms(3), impl.Call{Word: impl.WdMake, X: impl.KdBox, Y: 1, Z: 2}, impl.Call{Word: impl.WdKids}, impl.Call{Word: impl.WdKids}, impl.Call{Word: impl.WdDrop})
	first, second := ran(t, 8, l[:6]), ran(t, 8, l)
	same(t, "new memory", newMemory(first, l, second), true)
	same(t, "new memory", newMemory(second, l, first), true)
	seen := fmt.Sprintf("%+v", second)
	first.Replies[4].Handles[0].Id = -7
	same(t, "another list of the answer", first.Replies[5].Handles[0], first.Machine.Told[0][1])
	first.Machine.Told[0][1].Id, first.Machine.Kernel.Words[3] = -7, -7
	same(t, "another answer, not changed", fmt.Sprintf("%+v", second), seen)
	alike(t, "the same run tells the same", impl.RunCalls(8, l), second)
}
