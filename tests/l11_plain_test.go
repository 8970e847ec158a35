package tests

import (
	"fmt"
	"slices"
	"testing"

	"loop.example/g00740/impl"
)

// twin is a machine and a plain kernel, to which the same calls are done.
type twin struct {
	*bench
	p     impl.Plain
	calls []impl.Call
	told  []impl.Reply
}

func newTwin(t *testing.T, seed int64) *twin {
	t.Helper()
	b := newBench(t, seed)
	return &twin{bench: b, p: plainMade(t, impl.RootOf(b.m.Kernel)).Plain}
}

// do asks that what the machine tells is what the plain kernel may tell, and that both have the same then.
func (w *twin) do(c impl.Call) impl.Reply {
	w.t.Helper()
	r := w.bench.do(c)
	out := plainDone(w.t, w.p, c, r)
	if out.Code != impl.OK {
		w.t.Fatalf("%+v told %+v: code %d", c, r, out.Code)
	}
	w.p = out.Plain
	w.calls, w.told = append(w.calls, c), append(w.told, r)
	alike(w.t, fmt.Sprintf("behind %+v", c), w.p, plainOf(w.m, w.p.Ever))
	return r
}

func (w *twin) makes(who int64, box impl.Ref, kind int64, of int64, order int64) impl.Ref {
	w.t.Helper()
	r := w.do(impl.Call{Who: who, Word: impl.WdMake, A: box, X: kind, Y: of, Z: order})
	if r.Code != impl.OK {
		w.t.Fatalf("make of kind %d by %d: code %d", kind, who, r.Code)
	}
	return impl.Ref{Label: who, N: int64(len(w.m.Told[who]) - 1)}
}

func (w *twin) is(what string, c impl.Call, want impl.Reply) {
	w.t.Helper()
	alike(w.t, what, w.do(c), want)
}

// fails asks that a call is told a code, that it turns nothing, and that no plain kernel may tell it as if there were something.
func (w *twin) fails(what string, c impl.Call, code int64) {
	w.t.Helper()
	before := copyPlain(w.p)
	w.is(what, c, impl.Reply{Code: code})
	alike(w.t, what+": as it was", w.p, before)
	for other := int64(-1); other <= 11; other++ {
		want := int64(impl.ErrState)
		if other == code {
			want = impl.OK
		}
		got := plainDone(w.t, before, c, impl.Reply{Code: other})
		same(w.t, fmt.Sprint(what, ": told ", other), got.Code, want)
	}
	for _, more := range []impl.Reply{{Code: code, N: 1}, {Code: code, Handle: w.name(impl.Ref{})}, {Code: code, Handles: []impl.Handle{{}}}} {
		same(w.t, what+": something beside the code", plainDone(w.t, before, c, more).Code, int64(impl.ErrState))
	}
}

// plainOf is what there is of a machine, by the names that were ever told.
func plainOf(m impl.Machine, ever []impl.Handle) impl.Plain {
	p := impl.Plain{Told: m.Told, Ever: ever}
	for _, h := range ever {
		one := slotOf(m.Kernel, h)
		if one == nil {
			continue
		}
		o := one.Obj
		made := impl.Thing{Handle: h, Kind: o.Kind, Of: o.Of, Order: o.Order, Up: o.Up, Maps: o.Maps}
		if o.Kind == impl.KdSeg {
			from, to := spanOf(m.Kernel, h)
			made.Words = m.Kernel.Words[from:to]
		}
		p.Things = append(p.Things, made)
	}
	return p
}

func TestPlainNewByHand(t *testing.T) {
	root := impl.Handle{By: 0, Id: 77, Gen: 2}
	told := make([][]impl.Handle, 16)
	told[0] = []impl.Handle{root}
	alike(t, "field by field", plainMade(t, root), impl.PlainOut{Plain: impl.Plain{
		Things: []impl.Thing{{Handle: root, Kind: impl.KdBox, Of: 0, Order: 5, Up: impl.Handle{}}},
		Told:   told,
		Ever:   []impl.Handle{root},
	}})
	for _, by := range []int64{-1, 1, 15, 16, 1 << 62, -1 << 63} {
		alike(t, "not By 0", plainMade(t, impl.Handle{By: by, Id: 5}), impl.PlainOut{Code: impl.ErrForm})
		same(t, "not By 0: explains", explained(t, impl.Handle{By: by, Id: 5}, nil, nil), false)
	}
	for _, n := range append([]int64{0, 1, 3, -1}, wideNumbers...) {
		for _, h := range []impl.Handle{{Id: n}, {Gen: n}, {Id: n, Gen: -n}} {
			same(t, "whichever name", plainMade(t, h).Plain.Ever, []impl.Handle{h})
			same(t, "whichever name: explains", explained(t, h, nil, nil), true)
		}
	}
	first, second := plainMade(t, root), plainMade(t, root)
	same(t, "of two answers", newMemory(first, second), true)
	first.Plain.Told[0][0].Id, first.Plain.Things[0].Order = -7, -7
	same(t, "another list of the answer", first.Plain.Ever, []impl.Handle{root})
	same(t, "another answer", second.Plain.Told[0], []impl.Handle{root})
}

// The twelve words, field by field: the plain kernel beside a machine.
func TestThePlainWordsByHand(t *testing.T) {
	w := newTwin(t, 5)
	root := impl.Ref{}
	box := w.makes(0, root, impl.KdBox, 1, 3)
	low := w.makes(1, box, impl.KdSeg, 1, 0)
	seg := w.makes(1, box, impl.KdSeg, 3, 1)
	space := w.makes(1, box, impl.KdSpace, 1, 0)
	told := make([][]impl.Handle, 16)
	told[0], told[1] = []impl.Handle{w.name(root), w.name(box)}, []impl.Handle{w.name(low), w.name(seg), w.name(space)}
	all := []impl.Handle{w.name(root), w.name(box), w.name(low), w.name(seg), w.name(space)}
	things := []impl.Thing{
		{Handle: w.name(root), Kind: 1, Order: 5},
		{Handle: w.name(box), Kind: 1, Of: 1, Order: 3, Up: w.name(root)},
		{Handle: w.name(low), Kind: 2, Of: 1, Up: w.name(box), Words: []int64{0, 0}},
		{Handle: w.name(seg), Kind: 2, Of: 3, Order: 1, Up: w.name(box), Words: []int64{0, 0, 0, 0}},
		{Handle: w.name(space), Kind: 3, Of: 1, Up: w.name(box)},
	}
	alike(t, "made", w.p, impl.Plain{Things: things, Told: told, Ever: all})

	w.is("info", impl.Call{Who: 3, Word: impl.WdInfo, A: seg, X: 8, Y: 9, Z: 7}, impl.Reply{N: 312})
	w.is("kids", impl.Call{Who: 1, Word: impl.WdKids, A: box, X: 2}, impl.Reply{Handles: all[2:]})
	w.is("room", impl.Call{Who: 1, Word: impl.WdRoom, A: box, Z: 4}, impl.Reply{N: 5})
	w.is("poke", impl.Call{Who: 1, Word: impl.WdPoke, A: low, X: 1, Y: 77, Z: 3}, impl.Reply{})
	w.is("peek", impl.Call{Who: 1, Word: impl.WdPeek, A: low, X: 1, Y: 99}, impl.Reply{N: 77})
	w.is("fill", impl.Call{Who: 3, Word: impl.WdFill, A: seg, X: 999999, Y: 61, Z: 5}, impl.Reply{})
	w.is("map", impl.Call{Who: 1, Word: impl.WdMap, A: space, B: seg, X: 4, Y: 1, Z: 9}, impl.Reply{})
	w.is("map", impl.Call{Who: 1, Word: impl.WdMap, A: space, B: low, X: 2, Y: 31}, impl.Reply{})
	w.is("map", impl.Call{Who: 1, Word: impl.WdMap, A: space, B: low, X: 6, Y: 0}, impl.Reply{})
	w.is("store", impl.Call{Who: 1, Word: impl.WdStore, A: space, X: 4, Y: 0, Z: 500, B: low}, impl.Reply{})
	w.is("load", impl.Call{Who: 1, Word: impl.WdLoad, A: space, X: 6, Y: 1, Z: 800}, impl.Reply{N: 77})
	things[2].Words, things[3].Words = []int64{0, 77}, []int64{61, 61, 500, 61}
	things[4].Maps = []impl.Map{{Va: 2, Seg: all[2], Page: 31}, {Va: 4, Seg: all[3], Page: 1}, {Va: 6, Seg: all[2]}}
	alike(t, "written and mapped", w.p, impl.Plain{Things: things, Told: told, Ever: all})

	w.is("map in place of another one", impl.Call{Who: 1, Word: impl.WdMap, A: space, B: seg, X: 2, Y: 3}, impl.Reply{})
	w.is("unmap", impl.Call{Who: 1, Word: impl.WdUnmap, A: space, X: 4, Y: 6}, impl.Reply{})
	w.is("unmap of nothing", impl.Call{Who: 1, Word: impl.WdUnmap, A: space, X: 5}, impl.Reply{})
	w.is("drop", impl.Call{Who: 1, Word: impl.WdDrop, A: low, B: seg, X: 1}, impl.Reply{})
	things[4].Maps = []impl.Map{{Va: 2, Seg: all[3], Page: 3}, {Va: 6, Seg: all[2]}}
	left := []impl.Thing{things[0], things[1], things[3], things[4]}
	alike(t, "dropped", w.p, impl.Plain{Things: left, Told: told, Ever: all})

	w.fails("load of what is gone", impl.Call{Who: 1, Word: impl.WdLoad, A: space, X: 6}, impl.ErrNone)
	w.is("drop of the box", impl.Call{Word: impl.WdDrop, A: box}, impl.Reply{})
	alike(t, "all in it went", w.p, impl.Plain{Things: things[:1], Told: told, Ever: all})
	same(t, "explains", explained(t, w.name(root), w.calls, w.told), true)
}

// What goes with a drop, in boxes of boxes; of each name that is gone one is told what one is told of one that never was.
func TestPlainDropsByHand(t *testing.T) {
	w := newTwin(t, 900)
	yard := w.makes(0, impl.Ref{}, impl.KdBox, 1, 4)
	shed := w.makes(0, impl.Ref{}, impl.KdSeg, 0, 2)
	barn := w.makes(1, yard, impl.KdBox, 3, 2)
	loft := w.makes(3, barn, impl.KdBox, 7, 1)
	hay := w.makes(7, loft, impl.KdSeg, 7, 0)
	map7 := w.makes(7, loft, impl.KdSpace, 15, 0)
	desk := w.makes(1, yard, impl.KdSpace, 1, 0)
	mud := w.makes(1, yard, impl.KdSeg, 1, 1)
	names := func(refs ...impl.Ref) []impl.Handle {
		var out []impl.Handle
		for _, one := range refs {
			out = append(out, w.name(one))
		}
		return out
	}
	has := func(what string, who int64, box impl.Ref, room int64, kids ...impl.Ref) {
		t.Helper()
		w.is(what+": kids", impl.Call{Who: who, Word: impl.WdKids, A: box}, impl.Reply{Handles: names(kids...)})
		w.is(what+": room", impl.Call{Who: who, Word: impl.WdRoom, A: box}, impl.Reply{N: room})
	}
	has("root", 0, impl.Ref{}, 12, yard, shed)
	has("yard", 1, yard, 10, barn, desk, mud)
	has("loft", 7, loft, 1, hay, map7)
	w.is("the words of 7", impl.Call{Who: 7, Word: impl.WdFill, A: hay, Y: 9}, impl.Reply{})
	w.is("mud stands in the desk", impl.Call{Who: 1, Word: impl.WdMap, A: desk, B: mud, X: 3, Y: 1}, impl.Reply{})
	w.is("hay stands in a space of 15", impl.Call{Who: 15, Word: impl.WdMap, A: map7, B: hay, X: 0}, impl.Reply{})
	w.is("load", impl.Call{Who: 15, Word: impl.WdLoad, A: map7, X: 0}, impl.Reply{N: 9})
	w.is("load", impl.Call{Who: 1, Word: impl.WdLoad, A: desk, X: 3}, impl.Reply{})

	for _, who := range []int64{0, 3, 7, 15} {
		w.fails("not who made it", impl.Call{Who: who, Word: impl.WdDrop, A: barn}, impl.ErrNone)
	}
	w.fails("the root", impl.Call{Word: impl.WdDrop}, impl.ErrNone)
	w.is("what is in the middle goes", impl.Call{Who: 1, Word: impl.WdDrop, A: desk}, impl.Reply{})
	has("yard", 1, yard, 10, barn, mud)
	again := w.makes(1, yard, impl.KdSpace, 1, 0)
	has("yard", 1, yard, 10, barn, mud, again)
	w.is("a box goes, and three that are in it", impl.Call{Who: 1, Word: impl.WdDrop, A: barn}, impl.Reply{})
	has("yard", 1, yard, 14, mud, again)
	has("root", 0, impl.Ref{}, 12, yard, shed)
	for _, gone := range []impl.Ref{barn, loft, hay, map7, desk, {Label: 1, N: 77}} {
		for _, who := range []int64{1, 3, 7, 15} {
			for word := int64(1); word <= 12; word++ {
				w.fails("gone", impl.Call{Who: who, Word: word, A: gone, X: word & 1, Y: who & 1}, []int64{impl.ErrNone, impl.ErrForm}[formOf(word, who)])
			}
		}
	}
	w.is("the yard goes", impl.Call{Word: impl.WdDrop, A: yard}, impl.Reply{})
	has("root", 0, impl.Ref{}, 28, shed)
	w.is("the shed goes", impl.Call{Word: impl.WdDrop, A: shed}, impl.Reply{})
	has("root", 0, impl.Ref{}, 32)
	same(t, "explains", explained(t, w.name(impl.Ref{}), w.calls, w.told), true)
}

// formOf is 1 of those calls above that are told ErrForm, whatever they name: a Make of no kind, or of a lesser label.
func formOf(word int64, who int64) int {
	if word == impl.WdMake && who > 1 {
		return 1
	}
	return 0
}

// Who may hear of what: a thing that one may not hear of is told as one that never was, and what is in it likewise.
func TestPlainOfEachLabel(t *testing.T) {
	w := newTwin(t, 31)
	box := w.makes(0, impl.Ref{}, impl.KdBox, 2, 2)
	seg := w.makes(2, box, impl.KdSeg, 6, 0)
	space := w.makes(2, box, impl.KdSpace, 6, 0)
	inner := w.makes(2, box, impl.KdBox, 10, 0)
	w.is("fill", impl.Call{Who: 6, Word: impl.WdFill, A: seg, Y: 44}, impl.Reply{})
	w.is("map", impl.Call{Who: 2, Word: impl.WdMap, A: space, B: seg, X: 7}, impl.Reply{})
	for who := range int64(16) {
		hears, knows := flowsByLetters(2, who), flowsByLetters(6, who)
		told := func(what string, c impl.Call, may bool, want impl.Reply) {
			t.Helper()
			c.Who = who
			if may {
				w.is(what, c, want)
				return
			}
			w.fails(what, c, impl.ErrNone)
		}
		told("info of the segment", impl.Call{Word: impl.WdInfo, A: seg}, hears, impl.Reply{N: 602})
		told("info of the space", impl.Call{Word: impl.WdInfo, A: space}, hears, impl.Reply{N: 603})
		told("info of the box within", impl.Call{Word: impl.WdInfo, A: inner}, hears, impl.Reply{N: 1001})
		told("kids", impl.Call{Word: impl.WdKids, A: box}, hears, impl.Reply{Handles: []impl.Handle{w.name(seg), w.name(space), w.name(inner)}})
		told("room", impl.Call{Word: impl.WdRoom, A: box}, hears, impl.Reply{N: 2})
		told("room of the box within", impl.Call{Word: impl.WdRoom, A: inner}, flowsByLetters(10, who), impl.Reply{N: 1})
		told("kids of the box within", impl.Call{Word: impl.WdKids, A: inner}, flowsByLetters(10, who), impl.Reply{})
		told("peek", impl.Call{Word: impl.WdPeek, A: seg, X: 1}, knows, impl.Reply{N: 44})
		told("poke", impl.Call{Word: impl.WdPoke, A: seg, Y: 44}, hears && flowsByLetters(who, 6), impl.Reply{})
		told("fill", impl.Call{Word: impl.WdFill, A: seg, Y: 44}, hears && flowsByLetters(who, 6), impl.Reply{})
		told("map", impl.Call{Word: impl.WdMap, A: space, B: seg, X: 1, Y: 1}, hears && flowsByLetters(who, 6), impl.Reply{})
		told("unmap", impl.Call{Word: impl.WdUnmap, A: space, X: 1}, hears && flowsByLetters(who, 6), impl.Reply{})
		told("load", impl.Call{Word: impl.WdLoad, A: space, X: 7}, who == 6, impl.Reply{N: 44})
		told("store", impl.Call{Word: impl.WdStore, A: space, X: 7, Y: 1, Z: 44}, who == 6, impl.Reply{})
		told("load of nothing", impl.Call{Word: impl.WdLoad, A: space, X: 1}, false, impl.Reply{})
		if who != 2 {
			told("drop", impl.Call{Word: impl.WdDrop, A: []impl.Ref{seg, space, inner, {}}[who%4]}, false, impl.Reply{})
		}
		for _, no := range []impl.Ref{{N: 2}, {Label: 2, N: 3}, {Label: who, N: 999}, {Label: 15 - who, N: 5}, {Label: 2, N: 4}} {
			for _, word := range []int64{2, 3, 4, 5, 6, 7, 8, 9, 10, 11, 12} {
				told("what never was", impl.Call{Word: word, A: no, X: 1, Y: 1}, false, impl.Reply{})
			}
		}
	}
	same(t, "explains, as many as may be", explained(t, w.name(impl.Ref{}), w.calls[:400], w.told[:400]), true)
}

// A Make of a box that is there is told ErrFull, or any name of its By that was none ever; nothing else.
func TestPlainMakeTakesNamesAsTheyAreTold(t *testing.T) {
	w := newTwin(t, 64)
	box := w.makes(0, impl.Ref{}, impl.KdBox, 4, 1)
	old := w.makes(4, box, impl.KdSeg, 4, 0)
	w.is("it goes", impl.Call{Who: 4, Word: impl.WdDrop, A: old}, impl.Reply{})
	c := impl.Call{Who: 4, Word: impl.WdMake, A: box, X: impl.KdSeg, Y: 12, Z: 5}
	takes := func(what string, r impl.Reply, code int64) impl.Plain {
		t.Helper()
		out := plainDone(t, w.p, c, r)
		same(t, what, out.Code, code)
		return out.Plain
	}
	alike(t, "full: nothing changes", takes("full", impl.Reply{Code: impl.ErrFull}, impl.OK), w.p)
	for _, id := range append([]int64{1, 5, 65535}, wideNumbers...) {
		for gen := int64(-1); gen <= 4; gen++ {
			h := impl.Handle{By: 4, Id: id, Gen: gen}
			p := takes("a new name", impl.Reply{Handle: h}, impl.OK)
			want := copyPlain(w.p)
			made := impl.Thing{Handle: h, Kind: impl.KdSeg, Of: 12, Order: 5, Up: w.name(box), Words: make([]int64, 64)}
			want.Things, want.Ever, want.Told[4] = append(want.Things, made), append(want.Ever, h), append(want.Told[4], h)
			alike(t, "behind all others", p, want)
		}
	}
	takes("a name that is gone", impl.Reply{Handle: w.name(old)}, impl.ErrState)
	for _, by := range []int64{-1, 0, 1, 3, 5, 12, 15, 16, 20} {
		takes("of another By", impl.Reply{Handle: impl.Handle{By: by, Id: 9}}, impl.ErrState)
		takes("of another By", impl.Reply{Handle: impl.Handle{By: by, Id: w.name(old).Id, Gen: 2}}, impl.ErrState)
	}
	fresh := impl.Handle{By: 4, Id: 9}
	for code := int64(-1); code <= 12; code++ {
		if code != impl.OK {
			takes("a name beside a code", impl.Reply{Code: code, Handle: fresh}, impl.ErrState)
		}
		if code != impl.ErrFull {
			takes("no name", impl.Reply{Code: code}, impl.ErrState)
		}
		takes("a number", impl.Reply{Code: code, N: 1}, impl.ErrState)
		takes("names", impl.Reply{Code: code, Handles: []impl.Handle{fresh}}, impl.ErrState)
	}
	takes("a number beside it", impl.Reply{Handle: fresh, N: -1}, impl.ErrState)
	takes("names beside it", impl.Reply{Handle: fresh, Handles: []impl.Handle{fresh}}, impl.ErrState)
	takes("the empty list beside it", impl.Reply{Handle: fresh, Handles: []impl.Handle{}}, impl.OK)
	takes("the empty list beside a code", impl.Reply{Code: impl.ErrFull, Handles: []impl.Handle{}}, impl.OK)
	for what, kind := range map[string]int64{"a segment": impl.KdSeg, "a box": impl.KdBox, "a space": impl.KdSpace} {
		c.X, c.Z = kind, 0
		takes(what, impl.Reply{Handle: fresh}, impl.OK)
		takes(what+": full", impl.Reply{Code: impl.ErrFull}, impl.OK)
		takes(what+": there", impl.Reply{Code: impl.ErrThere}, impl.ErrState)
	}
}

// Of By 0 the names are those of a root of any By 0 name, and one of them is the root's own.
func TestPlainMakeByTheRootsLabel(t *testing.T) {
	for _, root := range []impl.Handle{{Id: 1}, {Id: 70000, Gen: 9}, {Id: -3, Gen: -1}} {
		p := plainMade(t, root).Plain
		c := impl.Call{Word: impl.WdMake, X: impl.KdBox, Z: 1}
		same(t, "the root's", plainDone(t, p, c, impl.Reply{Handle: root}).Code, int64(impl.ErrState))
		h := impl.Handle{Id: root.Id, Gen: root.Gen + 1}
		out := plainDone(t, p, c, impl.Reply{Handle: h})
		same(t, "another Gen", out.Code, int64(impl.OK))
		same(t, "twice", plainDone(t, out.Plain, c, impl.Reply{Handle: h}).Code, int64(impl.ErrState))
		c.A.N = 1
		inner := plainDone(t, out.Plain, c, impl.Reply{Handle: impl.Handle{Id: 2}})
		same(t, "in it", inner.Plain.Things[2].Up, h)
		gone := plainDone(t, inner.Plain, impl.Call{Word: impl.WdDrop, A: impl.Ref{N: 1}}, impl.Reply{})
		same(t, "gone", len(gone.Plain.Things), 1)
		same(t, "ever", slices.Equal(gone.Plain.Ever, []impl.Handle{root, h, {Id: 2}}), true)
		c.A.N = 0
		for _, old := range gone.Plain.Ever {
			same(t, "gone, and never again", plainDone(t, gone.Plain, c, impl.Reply{Handle: old}).Code, int64(impl.ErrState))
		}
	}
}
