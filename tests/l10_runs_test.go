package tests

import (
	"fmt"
	"slices"
	"sync"
	"testing"

	"loop.example/g00740/impl"
)

// past is a run of calls: what was told, and the machines, ahead of the first call and behind each.
type past struct {
	seed     int64
	calls    []impl.Call
	replies  []impl.Reply
	machines []impl.Machine
}

func newPast(seed int64) (past, impl.Machine) {
	m := impl.MachineNew(seed).Machine
	return past{seed: seed, machines: []impl.Machine{m}}, m
}

func (p *past) add(t *testing.T, m impl.Machine, c impl.Call) impl.Machine {
	t.Helper()
	out := impl.CallDo(m, c)
	if out.Code != impl.OK {
		t.Fatalf("%+v: code %d", c, out.Code)
	}
	p.calls = append(p.calls, c)
	p.replies = append(p.replies, out.Reply)
	p.machines = append(p.machines, out.Machine)
	return out.Machine
}

// drawnPast is a run of that many calls by several labels, each of them right.
func drawnPast(t *testing.T, d *dice, many int) past {
	t.Helper()
	p, m := newPast(int64(d.draw(65536)))
	for len(p.calls) < many {
		if c := drawnCall(d, m); impl.CallRight(c) {
			m = p.add(t, m, c)
		}
	}
	return p
}

// asWithout asks promises 14 and 15 of a label: what is told to those it hears of, and all that it may know, behind each
// call, is what it is without all the others' calls; and these turn nothing of what it may know.
func (p past) asWithout(t *testing.T, label int64) {
	t.Helper()
	l := purged(t, p.calls, label)
	r := kept(t, p.calls, p.replies, label)
	same(t, "as many replies as calls", len(r), len(l))
	m := impl.MachineNew(p.seed).Machine
	done, sees := 0, impl.SeenBy(m.Kernel, label)
	for i, c := range p.calls {
		now := impl.SeenBy(p.machines[i+1].Kernel, label)
		if !flowsByLetters(c.Who, label) {
			same(t, fmt.Sprintf("%+v turns nothing for %d", c, label), now == sees, true)
			continue
		}
		out := impl.CallDo(m, l[done])
		alike(t, fmt.Sprintf("%+v without the others of %d", c, label), out.Reply, r[done])
		m, sees = out.Machine, impl.SeenBy(out.Machine.Kernel, label)
		same(t, fmt.Sprintf("seen by %d behind %+v", label, c), now == sees, true)
		done++
		if t.Failed() {
			t.FailNow()
		}
	}
	same(t, "all that is kept was done", done, len(l))
	last := p.machines[len(p.calls)]
	same(t, "seen in the end", seen(t, last.Kernel, label), seen(t, m.Kernel, label))
	alike(t, "told in the end", last.Told[label], m.Told[label])
	goesOnAlike(t, last, m, label)
}

// goesOnAlike asks that whatever the label calls next is told the same in both machines, and leaves the same to be seen.
func goesOnAlike(t *testing.T, a impl.Machine, b impl.Machine, label int64) {
	t.Helper()
	d := dice(2038074743 + label)
	to := impl.LabelsTo(label)
	ref := func() impl.Ref {
		one := to[d.draw(len(to))]
		return impl.Ref{Label: one, N: int64(d.draw(len(a.Told[one]) + 1))}
	}
	for range 60 {
		xyz := someArgs[d.draw(len(someArgs))]
		c := impl.Call{Who: label, Word: int64(1 + d.draw(12)), A: ref(), B: ref(), X: xyz[0], Y: xyz[1], Z: xyz[2]}
		one, other := impl.CallDo(a, c), impl.CallDo(b, c)
		what := fmt.Sprintf("%+v", c)
		alike(t, what+": told next", one.Reply, other.Reply)
		same(t, what+": seen next", impl.SeenBy(one.Machine.Kernel, label) == impl.SeenBy(other.Machine.Kernel, label), true)
	}
}

// notes counts what came up in a run, so that a test of it is one.
func (p past) notes(many map[string]int) {
	for i, c := range p.calls {
		r := p.replies[i]
		many[fmt.Sprint(c.Word, " ", r.Code)]++
		if c.Word == impl.WdMake {
			if r.Handle.Gen > 0 {
				many["made again"]++
			}
			if r.Code == impl.ErrFull && len(p.machines[i].Kernel.Arenas[c.Who].Slots) == impl.MaxSlots {
				many["full arena"]++
			} else if r.Code == impl.ErrFull {
				many["full room"]++
			}
		}
		if r.Code == impl.ErrNone && !equal(p.machines[i].Kernel, p.machines[i+1].Kernel) {
			many["stale"]++
		}
	}
	for label := range int64(16) {
		if n := len(impl.Purge(p.calls, label)); n > 9 && n < len(p.calls)-9 {
			many["apart"]++
		}
	}
}

// Promises 14 and 15, in long runs of calls by several labels, for each of the sixteen labels.
func TestWhoMayNotBeHeardTurnsNothing(t *testing.T) {
	t.Parallel()
	d := dice(15485863)
	many := map[string]int{}
	for round := range 24 {
		p := drawnPast(t, &d, []int{130, 260, 400}[round%3])
		p.notes(many)
		t.Run(fmt.Sprint(round), func(t *testing.T) {
			t.Parallel()
			for label := range int64(16) {
				p.asWithout(t, label)
			}
		})
	}
	want := []string{"made again", "full arena", "full room", "stale", "apart", "6 8", "7 8"}
	for word := 1; word <= 12; word++ {
		want = append(want, fmt.Sprint(word, " 0"), fmt.Sprint(word, " 6"))
	}
	cameUp(t, many, want...)
}

// The same by runs of RunCalls: the run of what Purge leaves tells what Kept leaves, and ends in what is seen alike.
func TestRunsOfWhatIsKept(t *testing.T) {
	t.Parallel()
	d := dice(32452867)
	for range 60 {
		p := drawnPast(t, &d, d.draw(61))
		whole := impl.RunCalls(p.seed, p.calls)
		same(t, "code", whole.Code, int64(impl.OK))
		alike(t, "replies", whole.Replies, p.replies)
		for label := range int64(16) {
			l := purged(t, p.calls, label)
			part := impl.RunCalls(p.seed, l)
			told := kept(t, p.calls, whole.Replies, label)
			alike(t, "what is told", part.Replies, told)
			same(t, "as many", len(told), len(l))
			same(t, "what may be known", seen(t, part.Machine.Kernel, label), seen(t, whole.Machine.Kernel, label))
			alike(t, "what was told", part.Machine.Told[label], whole.Machine.Told[label])
		}
		if t.Failed() {
			t.FailNow()
		}
	}
}

// walled is a machine in which 1, 2 and 3 have a box each in the root, of two pages, as the names 1, 2 and 3 told to 0.
func walled(t *testing.T) (past, impl.Machine) {
	t.Helper()
	p, m := newPast(4711)
	for of := int64(1); of <= 3; of++ {
		m = p.add(t, m, impl.Call{Word: impl.WdMake, X: impl.KdBox, Y: of, Z: 1})
	}
	return p, m
}

// busy is what a label does in its own box: it fills the room and the arena, drops and makes again, till all its slots are
// used up.
func busy(t *testing.T, p *past, m impl.Machine, who int64) impl.Machine {
	t.Helper()
	box := impl.Ref{N: who}
	for n := range int64(20) {
		m = p.add(t, m, impl.Call{Who: who, Word: impl.WdMake, A: box, X: impl.KdSeg, Y: who | n&3})
		m = p.add(t, m, impl.Call{Who: who, Word: impl.WdMake, A: box, X: impl.KdSpace, Y: 3})
		for _, c := range []impl.Call{
			{Word: impl.WdFill, A: impl.Ref{Label: who, N: n}, Y: 100*who + n},
			{Word: impl.WdPeek, A: impl.Ref{Label: 1, N: n}}, {Word: impl.WdPeek, A: impl.Ref{Label: 2, N: n}},
			{Word: impl.WdRoom, A: box}, {Word: impl.WdKids, A: box}, {Word: impl.WdInfo, A: impl.Ref{Label: 3 - who&1, N: n}},
		} {
			c.Who = who
			m = p.add(t, m, c)
		}
		if n > 2 {
			m = p.add(t, m, impl.Call{Who: who, Word: impl.WdDrop, A: impl.Ref{Label: who, N: n - 2}})
		}
	}
	return m
}

// What is full for one is not full for another, nor what is used up, nor what is free again.
func TestWhatIsFullIsNotToldToOthers(t *testing.T) {
	t.Parallel()
	for _, order := range [][]int64{{2, 1}, {1, 2}, {3, 2, 1}, {2, 3}, {3, 1}, {1, 2, 3}} {
		p, m := walled(t)
		for _, who := range order {
			m = busy(t, &p, m, who)
		}
		p.calls, p.replies = p.calls[:min(400, len(p.calls))], p.replies[:min(400, len(p.calls))]
		codes := map[int64]int{}
		for _, r := range p.replies {
			codes[r.Code]++
		}
		if codes[impl.ErrFull] < 20 || codes[impl.OK] < 50 {
			t.Errorf("codes: %v", codes)
		}
		for label := range int64(16) {
			p.asWithout(t, label)
		}
	}
}

// What a lesser label drops and makes again is the same for it, whatever a greater one had in it, or has in its space still.
func TestWhatIsDroppedWithOthersInIt(t *testing.T) {
	t.Parallel()
	p, m := walled(t)
	does := func(who int64, c impl.Call) {
		t.Helper()
		c.Who = who
		m = p.add(t, m, c)
	}
	for n := range int64(3) {
		box := impl.Ref{N: []int64{1, 4, 5}[n]}
		does(1, impl.Call{Word: impl.WdMake, A: box, X: impl.KdBox, Y: 5})                           // told to 1: 3*n
		does(1, impl.Call{Word: impl.WdMake, A: box, X: impl.KdSpace, Y: 5})                         // 3*n+1
		does(1, impl.Call{Word: impl.WdMake, A: box, X: impl.KdSeg, Y: 1})                           // 3*n+2
		does(5, impl.Call{Word: impl.WdMake, A: impl.Ref{Label: 1, N: 3 * n}, X: impl.KdSeg, Y: 13}) // told to 5: n
		does(5, impl.Call{Word: impl.WdFill, A: impl.Ref{Label: 5, N: n}, Y: 9})                     // words that must not come back
		does(5, impl.Call{Word: impl.WdMap, A: impl.Ref{Label: 1, N: 3*n + 1}, B: impl.Ref{Label: 1, N: 3*n + 2}, X: 2})
		does(5, impl.Call{Word: impl.WdLoad, A: impl.Ref{Label: 1, N: 3*n + 1}, X: 2}) // fast from now on
		does(1, impl.Call{Word: impl.WdPoke, A: impl.Ref{Label: 1, N: 3*n + 2}, Y: 70 + n})
		does(5, impl.Call{Word: impl.WdLoad, A: impl.Ref{Label: 1, N: 3*n + 1}, X: 2})
		does(1, impl.Call{Word: impl.WdDrop, A: impl.Ref{Label: 1, N: 3*n + 2}})
		does(5, impl.Call{Word: impl.WdLoad, A: impl.Ref{Label: 1, N: 3*n + 1}, X: 2}) // stale, and then no more
		does(1, impl.Call{Word: impl.WdMap, A: impl.Ref{Label: 1, N: 3*n + 1}, B: impl.Ref{Label: 1}, X: 2})
		does(1, impl.Call{Word: impl.WdLoad, A: impl.Ref{Label: 1, N: 3*n + 1}, X: 2})
		does(0, impl.Call{Word: impl.WdDrop, A: box})
		does(5, impl.Call{Word: impl.WdInfo, A: impl.Ref{Label: 5, N: n}})
		does(0, impl.Call{Word: impl.WdMake, X: impl.KdBox, Y: 1, Z: 1})
	}
	same(t, "told as it was", p.replies[3+8].Code == impl.OK && p.replies[3+8].N == 70, true)
	same(t, "stale", p.replies[3+10].Code, int64(impl.ErrNone))
	for label := range int64(16) {
		p.asWithout(t, label)
	}
}

// A space of a greater label, made by a lesser one: what the greater one has there is told to it alone, and what the lesser
// one puts there is not asked back.
func TestWhatStandsInAGreatersSpace(t *testing.T) {
	t.Parallel()
	p, m := walled(t)
	space, low, other := impl.Ref{Label: 1}, impl.Ref{Label: 1, N: 1}, impl.Ref{Label: 1, N: 2}
	for _, c := range []impl.Call{
		{Who: 1, Word: impl.WdMake, A: impl.Ref{N: 1}, X: impl.KdSpace, Y: 3},
		{Who: 1, Word: impl.WdMake, A: impl.Ref{N: 1}, X: impl.KdSeg, Y: 1},
		{Who: 1, Word: impl.WdMake, A: impl.Ref{N: 1}, X: impl.KdSeg, Y: 1},
		{Who: 1, Word: impl.WdFill, A: low, Y: 11},
		{Who: 1, Word: impl.WdFill, A: other, Y: 22},
	} {
		m = p.add(t, m, c)
	}
	for _, c := range []impl.Call{
		{Who: 3, Word: impl.WdMap, A: space, B: low, X: 2}, {Who: 3, Word: impl.WdLoad, A: space, X: 2},
		{Who: 3, Word: impl.WdMap, A: space, B: other, X: 2}, {Who: 3, Word: impl.WdLoad, A: space, X: 2},
		{Who: 1, Word: impl.WdMap, A: space, B: low, X: 5}, {Who: 3, Word: impl.WdLoad, A: space, X: 5},
		{Who: 3, Word: impl.WdUnmap, A: space, X: 5}, {Who: 3, Word: impl.WdMap, A: space, B: other, X: 5},
		{Who: 1, Word: impl.WdUnmap, A: space, X: 2}, {Who: 1, Word: impl.WdDrop, A: other},
	} {
		m = p.add(t, m, c)
		for _, va := range []int64{2, 5} {
			for who := range int64(4) {
				m = p.add(t, m, impl.Call{Who: who, Word: impl.WdLoad, A: space, X: va})
				if who < 3 {
					alike(t, "not its own space", p.replies[len(p.replies)-1], impl.Reply{Code: impl.ErrNone})
				}
			}
		}
	}
	for label := range int64(16) {
		p.asWithout(t, label)
	}
}

// Kernels behind drawn calls, and others that no run comes to, right or not, each held against the document's words.
func TestSeenByTheDocument(t *testing.T) {
	t.Parallel()
	d := dice(67867979)
	many := map[bool]int{}
	for round := range 100 {
		m := impl.MachineNew(int64(d.draw(65536))).Machine
		for range d.draw(120) {
			if out := impl.CallDo(m, drawnCall(&d, m)); out.Code == impl.OK {
				m = out.Machine
			}
		}
		k := m.Kernel
		if round%2 == 0 {
			k = shaken(&d, k)
		}
		if round%3 != 0 {
			k = shown(&d, k)
		}
		if round%5 == 0 {
			spoil(&d, &k.Arenas[d.draw(16)])
		}
		many[kernelRightByWords(k)]++
		looked(t, k)
		for _, h := range goneOf(m) {
			spread(t, k, h)
		}
		if t.Failed() {
			t.FailNow()
		}
	}
	if many[true] < 60 || many[false] < 10 {
		t.Errorf("right and wrong: %v", many)
	}
}

// What Spread tells is what RoomOf and the Kids tell; LiveOf is what Find finds, each name once.
func TestSpreadAndLiveGoTogether(t *testing.T) {
	t.Parallel()
	d := dice(86028157)
	for range 12 {
		p := drawnPast(t, &d, 150)
		k := p.machines[len(p.calls)].Kernel
		ever := []impl.Handle{impl.RootOf(k)}
		for i, r := range p.replies {
			if p.calls[i].Word == impl.WdMake && r.Code == impl.OK {
				ever = append(ever, r.Handle)
			}
		}
		live := lived(t, k)
		for i, h := range ever {
			same(t, "no name twice", slices.Index(ever, h), i)
			same(t, "live just if it is found", slices.Contains(live, h), impl.Find(k, h).Kind != 0)
		}
		for i, h := range live {
			same(t, "once", slices.Index(live, h), i)
			o := impl.Find(k, h)
			pages := spread(t, k, h)
			if o.Kind != impl.KdBox {
				same(t, "no box", len(pages), 0)
				continue
			}
			times := make([]int64, len(o.Kids)+1)
			for _, whose := range pages {
				times[whose]++
			}
			same(t, "free", times[0], impl.RoomOf(k, 15, h).N)
			for place, kid := range o.Kids {
				size := int64(0)
				if one := impl.Find(k, kid); one.Kind != impl.KdSpace {
					size = sizeOf(one.Order)
				}
				same(t, "as many as it has", times[place+1], size)
			}
		}
	}
}

// Two purges one after the other are the one of what flows to both.
func TestPurgedTwice(t *testing.T) {
	d := dice(104395301)
	p := drawnPast(t, &d, 200)
	for a := range int64(16) {
		for b := range int64(16) {
			l, r := impl.Purge(p.calls, a), impl.Kept(p.calls, p.replies, a)
			alike(t, "calls", impl.Purge(l, b), purgeByWords(p.calls, impl.Meet(a, b)))
			alike(t, "replies", impl.Kept(l, r, b), keptByWords(p.calls, p.replies, impl.Meet(a, b)))
		}
	}
}

// The same is told again and again, also by several goroutines at once.
func TestSeenAgainAndAtOnce(t *testing.T) {
	t.Parallel()
	d := dice(122949829)
	p := drawnPast(t, &d, 200)
	k := shown(&d, p.machines[200].Kernel)
	root := impl.RootOf(k)
	ask := func(label int64) string {
		return fmt.Sprintf("%q %v %v %v %v", impl.SeenBy(k, label), impl.LiveOf(k), impl.Spread(k, root), impl.Purge(p.calls, label), impl.Kept(p.calls, p.replies, label))
	}
	var want [16]string
	for label := range want {
		want[label] = ask(int64(label))
		same(t, "by the document", impl.SeenBy(k, int64(label)), seenByWords(k, int64(label)))
	}
	for range 20 {
		for label := range want {
			same(t, "again", ask(int64(label)) == want[label], true)
		}
	}
	got := make([]string, 16*24)
	var all sync.WaitGroup
	for i := range got {
		all.Go(func() {
			for range 5 {
				got[i] = ask(int64(i % 16))
			}
		})
	}
	all.Wait()
	for i, one := range got {
		same(t, "at once", one == want[i%16], true)
	}
}
