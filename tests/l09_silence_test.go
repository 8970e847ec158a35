package tests

import (
	"fmt"
	"testing"

	"loop.example/g00740/impl"
)

// openMachine is a machine in which all names, and these, are told to label 0, so that whoever calls has them.
func openMachine(k impl.Kernel, more ...impl.Handle) impl.Machine {
	m := impl.Machine{Kernel: k, Told: make([][]impl.Handle, 16)}
	m.Told[0] = append(liveOf(k), more...)
	return m
}

// nothingNamed are Refs that name nothing for who.
func nothingNamed(m impl.Machine, who int64) []impl.Ref {
	out := []impl.Ref{{N: int64(len(m.Told[0]))}, {Label: who, N: int64(len(m.Told[who]))}}
	for label := range int64(16) {
		if !flowsByLetters(label, who) && len(m.Told[label]) > 0 {
			out = append(out, impl.Ref{Label: label}, impl.Ref{Label: label, N: 1})
		}
	}
	return out
}

// quietArgs are numbers with which each word would do something, if it might, and others that are beyond what there is.
var quietArgs = [][3]int64{{1, 15, 0}, {2, 15, 0}, {3, 15, 0}, {0, 0, 0}, {3, 1, 9}, {7, 0, 1}, {999999, 5, 0}, {8, 65536, 6}}

// quiet asks that of each of these Refs each word tells who the same as of a Ref that names nothing, and turns nothing.
func quiet(t *testing.T, what string, m impl.Machine, who int64, words []int64, refs ...impl.Ref) {
	t.Helper()
	before := copyMachine(m)
	for _, word := range words {
		for _, xyz := range quietArgs {
			c := impl.Call{Who: who, Word: word, A: impl.Ref{N: 999}, X: xyz[0], Y: xyz[1], Z: xyz[2]}
			want := impl.CallDo(m, c)
			same(t, what+": of nothing", equal(want.Machine, before), true)
			if want.Reply.Code != impl.ErrNone && want.Reply.Code != impl.ErrForm {
				t.Fatalf("%s: of nothing %+v tells %+v", what, c, want.Reply)
			}
			for _, ref := range refs {
				c.A = ref
				got := impl.CallDo(m, c)
				if !equal(got.Reply, want.Reply) {
					t.Fatalf("%s: %+v tells %+v, not %+v", what, c, got.Reply, want.Reply)
				}
				if !equal(got.Machine, before) {
					t.Fatalf("%s: %+v turns something", what, c)
				}
			}
		}
	}
}

var allWords = []int64{1, 2, 3, 4, 5, 6, 7, 8, 9, 10, 11, 12}

// quietWords are those that tell of what is in a thing, or turn it: who may hear of it, and may not know what is in it, nor
// write there, is told nothing by them.
func quietWords(h impl.Handle, o impl.Obj, who int64) []int64 {
	if !flowsByLetters(h.By, who) {
		return allWords
	}
	out := []int64{}
	if !flowsByLetters(o.Of, who) {
		out = append(out, impl.WdKids, impl.WdRoom, impl.WdPeek)
	}
	if !flowsByLetters(who, o.Of) {
		out = append(out, impl.WdPoke, impl.WdFill, impl.WdMap, impl.WdUnmap)
	}
	if who != o.Of {
		out = append(out, impl.WdMake, impl.WdLoad, impl.WdStore)
	}
	if who != h.By {
		out = append(out, impl.WdDrop)
	}
	return out
}

// Promise 12: of each thing that who may not hear of each word tells the same as of a name that never was, whether its name
// was told to its own label alone, or to all.
func TestWhoMayNotHearIsToldNothing(t *testing.T) {
	t.Parallel()
	hall := fastHall(t)
	hall.k = impl.Drop(hall.k, 1, hall.mid).Kernel // so that something is stale
	many := 0
	for _, k := range []impl.Kernel{newTown(t).k, hall.k} {
		for _, m := range []impl.Machine{machineOf(k), openMachine(k)} {
			for who := range int64(16) {
				quiet(t, "nothing", m, who, allWords, nothingNamed(m, who)...)
				for _, h := range liveOf(k) {
					words := quietWords(h, impl.Find(k, h), who)
					quiet(t, fmt.Sprint(h), m, who, words, refOf(m, h))
					if len(words) == 12 {
						many++
					}
				}
			}
		}
	}
	if many < 100 {
		t.Errorf("only %d pairs of a thing and one who may not hear of it", many)
	}
}

// What never was, and what is near to a name, is told as nothing, whoever asks, and whoever has the name.
func TestANameThatNeverWas(t *testing.T) {
	t.Parallel()
	w := newTown(t)
	for _, h := range []impl.Handle{w.root, w.well, w.map1, w.barn} {
		names := noNames(h)
		m := openMachine(w.k, names...)
		var refs []impl.Ref
		for n := range names {
			refs = append(refs, impl.Ref{N: int64(len(liveOf(w.k)) + n)})
		}
		for _, who := range []int64{0, h.By, impl.Find(w.k, h).Of, 15} {
			quiet(t, "near to one", m, who, allWords, refs...)
		}
	}
}

// What is gone is told as nothing to all, also to who made it, and also when its slot and its pages are used again.
func TestWhatIsGoneIsToldAsNothing(t *testing.T) {
	t.Parallel()
	for _, kind := range []int64{impl.KdBox, impl.KdSeg, impl.KdSpace} {
		b := newBench(t, 12)
		box := b.makes(0, impl.Ref{}, impl.KdBox, 1, 2)
		thing := b.makes(1, box, kind, 3, 0)
		refs := []impl.Ref{thing}
		if kind == impl.KdBox {
			refs = append(refs, b.makes(3, thing, impl.KdSeg, 3, 0), b.makes(3, thing, impl.KdSpace, 3, 0))
		}
		b.is("drop", impl.Call{Who: 1, Word: impl.WdDrop, A: thing}, impl.Reply{})
		for who := range int64(16) {
			quiet(t, "gone", b.m, who, allWords, refs...)
		}
		again := b.makes(1, box, kind, 3, 0)
		same(t, "in its slot", []int64{b.name(again).Gen, impl.ArenaFind(b.m.Kernel.Arenas[1], b.name(again))}, []int64{1, 0})
		for who := range int64(16) {
			quiet(t, "gone, and one made anew", b.m, who, allWords, refs...)
		}
		b.is("drop", impl.Call{Word: impl.WdDrop, A: box}, impl.Reply{})
		for who := range int64(16) {
			quiet(t, "gone with its box", b.m, who, allWords, append(refs, again, box)...)
		}
	}
}

// A Map is put whatever B names, and a Load or a Store tells of a segment that one may not hear of, of one that is gone, and
// of what never was, the same.
func TestMapsOfWhatOneMayNotHear(t *testing.T) {
	b := newBench(t, 21)
	own := b.makes(0, impl.Ref{}, impl.KdBox, 1, 2)
	far := b.makes(0, impl.Ref{}, impl.KdBox, 6, 2)
	space := b.makes(1, own, impl.KdSpace, 1, 0)
	hidden := b.makes(6, far, impl.KdSeg, 6, 1)
	gone := b.makes(1, own, impl.KdSeg, 1, 1)
	b.is("drop", impl.Call{Who: 1, Word: impl.WdDrop, A: gone}, impl.Reply{})
	open := copyMachine(b.m)
	open.Told[0] = append(open.Told[0], b.name(hidden), impl.Handle{By: 1, Id: 4711})
	for _, m := range []impl.Machine{b.m, open} {
		for _, ref := range []impl.Ref{hidden, gone, {N: 999}, {Label: 1, N: 999}, {N: 3}, {N: 4}, own, space} {
			in := called(t, m, impl.Call{Who: 1, Word: impl.WdMap, A: space, B: ref, X: 5, Y: 1})
			alike(t, "map", in.Reply, impl.Reply{})
			maps(t, "mapped", in.Machine.Kernel, b.name(space), impl.Map{Va: 5, Seg: impl.Named(m, 1, ref), Page: 1})
			for _, word := range []int64{impl.WdLoad, impl.WdStore} {
				out := called(t, in.Machine, impl.Call{Who: 1, Word: word, A: space, X: 5, Y: 1, Z: 7})
				alike(t, "look", out.Reply, impl.Reply{Code: impl.ErrNone})
				alike(t, "look: as it was", out.Machine, in.Machine)
			}
		}
	}
	in := called(t, b.m, impl.Call{Who: 1, Word: impl.WdMap, A: space, B: hidden, X: 5, Y: 1})
	maps(t, "a name that is never one", in.Machine.Kernel, b.name(space), impl.Map{Va: 5, Seg: impl.Handle{Gen: 3}, Page: 1})
}

// Promise 11: who is told that there is none has changed nothing but for what was stale in its own space; who has not that
// space has changed nothing at all.
func TestOnlyWhatIsStaleGoes(t *testing.T) {
	b := newBench(t, 40)
	box := b.makes(0, impl.Ref{}, impl.KdBox, 2, 3)
	space := b.makes(2, box, impl.KdSpace, 2, 0)
	var segs []impl.Ref
	for va := range int64(4) {
		seg := b.makes(2, box, impl.KdSeg, 2, 0)
		segs = append(segs, seg)
		b.is("map", impl.Call{Who: 2, Word: impl.WdMap, A: space, B: seg, X: va * 2}, impl.Reply{})
		b.is("store", impl.Call{Who: 2, Word: impl.WdStore, A: space, X: va * 2, Y: 1, Z: 600 + va}, impl.Reply{})
	}
	for _, va := range []int64{0, 2} {
		b.is("drop", impl.Call{Who: 2, Word: impl.WdDrop, A: segs[va]}, impl.Reply{})
	}
	stale(t, "stale", b.m.Kernel, b.name(space), 0, 4)
	for who := range int64(16) {
		for va := range int64(9) {
			for _, word := range []int64{impl.WdLoad, impl.WdStore} {
				c := impl.Call{Who: who, Word: word, A: space, X: va, Y: 1, Z: 9}
				out := called(t, b.m, c)
				if who != 2 || va != 0 && va != 4 {
					if out.Reply.Code != impl.OK {
						alike(t, "as it was", out.Machine, b.m)
					}
					continue
				}
				alike(t, "none", out.Reply, impl.Reply{Code: impl.ErrNone})
				stale(t, "one less", out.Machine.Kernel, b.name(space), 4-va)
				alike(t, "what is told stays", out.Machine.Told, b.m.Told)
				want := copyMachine(b.m)
				withoutFast(&slotOf(want.Kernel, b.name(space)).Obj, va)
				alike(t, "and nothing else", out.Machine, want)
				again := called(t, out.Machine, c)
				alike(t, "none again", again.Reply, impl.Reply{Code: impl.ErrNone})
				alike(t, "and then nothing goes", again.Machine, out.Machine)
			}
		}
	}
	b.is("what is not gone stands", impl.Call{Who: 2, Word: impl.WdLoad, A: space, X: 2, Y: 1}, impl.Reply{N: 601})
	l := []impl.Call{
		{Word: impl.WdMake, X: 3}, {Word: impl.WdMake, X: 2}, {Word: impl.WdMap, A: impl.Ref{N: 1}, B: impl.Ref{N: 2}, X: 3},
		{Word: impl.WdStore, A: impl.Ref{N: 1}, X: 3, Z: 5}, {Word: impl.WdDrop, A: impl.Ref{N: 2}}, {Word: impl.WdLoad, A: impl.Ref{N: 1}, X: 3},
	}
	run := ran(t, 4, l)
	alike(t, "in a run, too", run.Replies[5], impl.Reply{Code: impl.ErrNone})
	alike(t, "in a run, too", impl.Find(run.Machine.Kernel, run.Machine.Told[0][1]).Fasts, []impl.Fast(nil))
	alike(t, "in a run, too", len(impl.Find(ran(t, 4, l[:5]).Machine.Kernel, run.Machine.Told[0][1]).Fasts), 1)
}
