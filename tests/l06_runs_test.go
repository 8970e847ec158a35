package tests

import (
	"fmt"
	"slices"
	"testing"

	"loop.example/g00740/impl"
)

// A tree knows what is in what, by names alone: it knows nothing of arenas, slots and blocks.
type leaf struct {
	kind, of, order int64
	up              impl.Handle
	kids            []impl.Handle
}

type tree struct {
	root impl.Handle
	live map[impl.Handle]*leaf
	ever map[impl.Handle]bool
}

func newTree(root impl.Handle) tree {
	return tree{
		root: root,
		live: map[impl.Handle]*leaf{root: {kind: impl.KdBox, order: impl.MaxOrder}},
		ever: map[impl.Handle]bool{root: true},
	}
}

func (w tree) grow(h impl.Handle, one leaf) {
	w.live[h] = &one
	w.ever[h] = true
	w.live[one.up].kids = append(w.live[one.up].kids, h)
}

func (w tree) cut(h impl.Handle) {
	up := w.live[w.live[h].up]
	up.kids = slices.DeleteFunc(up.kids, func(kid impl.Handle) bool { return kid == h })
	w.forget(h)
}

func (w tree) forget(h impl.Handle) {
	for _, kid := range w.live[h].kids {
		w.forget(kid)
	}
	delete(w.live, h)
}

// holds asks whether the kernel has just what the tree has, and is right.
func (w tree) holds(t *testing.T, k impl.Kernel) {
	t.Helper()
	same(t, "right", impl.KernelRight(k), true)
	same(t, "root", impl.RootOf(k), w.root)
	same(t, "how many", len(liveOf(k)), len(w.live))
	for h := range w.ever {
		o := impl.Find(k, h)
		one := w.live[h]
		if one == nil {
			alike(t, "a name that is none any more", o, impl.Obj{})
			continue
		}
		same(t, "kind, Of, order", []int64{o.Kind, o.Of, o.Order}, []int64{one.kind, one.of, one.order})
		same(t, "Up", o.Up, one.up)
		alike(t, "kids", o.Kids, one.kids)
		if one.kind == impl.KdBox {
			w.holdsPages(t, k, o, one)
		}
	}
}

// holdsPages asks whether the free pages and the parts of a box are all its pages, each once, at its own place.
func (w tree) holdsPages(t *testing.T, k impl.Kernel, o impl.Obj, one *leaf) {
	t.Helper()
	times := make([]int, impl.RootPages)
	for _, page := range impl.FreePages(o.Room) {
		times[o.At+page]++
	}
	for _, kid := range one.kids {
		if w.live[kid].kind == impl.KdSpace {
			continue
		}
		at := impl.Find(k, kid).At
		for page := range sizeOf(w.live[kid].order) {
			times[at+page]++
		}
	}
	for page, n := range times {
		inside := int64(page) >= o.At && int64(page) < o.At+sizeOf(o.Order)
		same(t, "each page once", n == 1, inside)
		same(t, "no other page", n == 0, !inside)
	}
}

// someName is one that is there as a rule, and else one that was, or never was.
func someName(d *dice, k impl.Kernel, gone []impl.Handle) impl.Handle {
	live := liveOf(k)
	switch {
	case len(gone) > 0 && d.draw(10) == 0:
		return gone[d.draw(len(gone))]
	case d.draw(20) == 0:
		return impl.Handle{By: int64(d.draw(18) - 1), Id: int64(d.draw(65536)), Gen: int64(d.draw(4))}
	}
	return live[d.draw(len(live))]
}

// someBox is a box of the kernel.
func someBox(d *dice, k impl.Kernel) impl.Handle {
	boxes := slices.DeleteFunc(liveOf(k), func(h impl.Handle) bool { return !isBox(slotOf(k, h)) })
	return boxes[d.draw(len(boxes))]
}

// drawnMake is a Make that is right as a rule.
func drawnMake(d *dice, k impl.Kernel, gone []impl.Handle) (who int64, box impl.Handle, kind int64, of int64, order int64) {
	box = someBox(d, k)
	who = slotOf(k, box).Obj.Of
	kind = int64(1 + d.draw(3))
	of = who | int64(d.draw(16)&d.draw(16))
	if kind != impl.KdSpace {
		order = int64(d.draw(4))
	}
	switch d.draw(25) {
	case 0:
		box = someName(d, k, gone)
	case 1:
		who = int64(d.draw(18) - 1)
	case 2:
		kind = int64(d.draw(6) - 1)
	case 3:
		of = int64(d.draw(18) - 1)
	case 4:
		order = int64(d.draw(8) - 1)
	}
	return who, box, kind, of, order
}

// Promises 7 and 8: in long runs a right kernel stays right, what is made is there, with what is dropped just what is in
// it goes, and no name is one again.
func TestLongRuns(t *testing.T) {
	d := dice(88172645463325252)
	codes := map[int64]int{}
	for range 60 {
		seed := int64(d.draw(65536))
		out := impl.KernelNew(seed)
		k, w := out.Kernel, newTree(out.Handle)
		var gone []impl.Handle
		for range 90 {
			before := fmt.Sprintf("%+v", k)
			was := k
			var code int64
			if d.draw(3) > 0 {
				k, code = makeStep(t, &d, k, w, gone)
			} else {
				k, code = dropStep(t, &d, k, w, &gone)
			}
			codes[code]++
			same(t, "not changed", fmt.Sprintf("%+v", was), before)
			w.holds(t, k)
			if t.Failed() {
				t.FailNow()
			}
		}
		tearDown(t, k, w)
	}
	for _, code := range []int64{impl.OK, impl.ErrForm, impl.ErrNone, impl.ErrFull} {
		if codes[code] < 100 {
			t.Errorf("code %d: only %d times", code, codes[code])
		}
	}
}

func makeStep(t *testing.T, d *dice, k impl.Kernel, w tree, gone []impl.Handle) (impl.Kernel, int64) {
	t.Helper()
	who, box, kind, of, order := drawnMake(d, k, gone)
	out := impl.Make(k, who, box, kind, of, order)
	alike(t, "make", out, makeByWords(k, who, box, kind, of, order))
	same(t, "new memory", newMemory(out, k), true)
	if out.Code != impl.OK {
		return k, out.Code
	}
	same(t, "a name that never was", w.ever[out.Handle], false)
	w.grow(out.Handle, leaf{kind: kind, of: of, order: order, up: box})
	back := impl.Drop(out.Kernel, who, out.Handle)
	alike(t, "dropped again, its box has what it had", impl.Find(back.Kernel, box), impl.Find(k, box))
	for i := range out.Kernel.Words { // as if they had been written
		out.Kernel.Words[i] = int64(d.draw(65536))
	}
	return out.Kernel, out.Code
}

func dropStep(t *testing.T, d *dice, k impl.Kernel, w tree, gone *[]impl.Handle) (impl.Kernel, int64) {
	t.Helper()
	h := someName(d, k, *gone)
	if one := w.live[h]; one != nil && len(one.kids) > 0 && d.draw(3) > 0 {
		h = one.kids[0] // else there would never be much
	}
	who := h.By
	if d.draw(15) == 0 {
		who = int64(d.draw(18) - 1)
	}
	out := impl.Drop(k, who, h)
	alike(t, "drop", out, dropThingByWords(k, who, h))
	same(t, "new memory", newMemory(out, k), true)
	if out.Code != impl.OK {
		return k, out.Code
	}
	w.cut(h)
	*gone = append(*gone, h)
	return out.Kernel, out.Code
}

// tearDown drops all that is in the root: it has all its pages again, and each name that was is none.
func tearDown(t *testing.T, k impl.Kernel, w tree) {
	t.Helper()
	for _, h := range slices.Clone(w.live[w.root].kids) {
		k = impl.Drop(k, 0, h).Kernel
		w.cut(h)
	}
	w.holds(t, k)
	same(t, "the root alone", liveOf(k), []impl.Handle{w.root})
	alike(t, "its room", impl.Find(k, w.root).Room, impl.BuddyNew(impl.MaxOrder).Buddy)
}

// shaken is a kernel that no run comes to, and that is right: other Ids, Counts, words and orders of Kids, spaces with
// Maps and Fasts.
func shaken(d *dice, k impl.Kernel) impl.Kernel {
	for _, h := range liveOf(k) {
		if d.draw(2) == 0 {
			k = renamed(k, h, (h.Id&^255|int64(d.draw(256)))^256)
		}
	}
	k = copyKernel(k)
	for i := range k.Arenas {
		if d.draw(3) == 0 {
			k.Arenas[i].Names.Count = int64(d.draw(1001))
		}
		for j := range k.Arenas[i].Slots {
			o := &k.Arenas[i].Slots[j].Obj
			slices.Reverse(o.Kids[:d.draw(len(o.Kids)+1)])
			for va := int64(0); o.Kind == impl.KdSpace && va < 8; va += 1 + int64(d.draw(4)) {
				seg := impl.Handle{By: int64(d.draw(20)), Id: int64(d.draw(70000))}
				page := int64(d.draw(32))
				o.Maps = append(o.Maps, impl.Map{Va: va, Seg: seg, Page: page})
				if d.draw(2) == 0 {
					o.Fasts = append(o.Fasts, impl.Fast{Va: va, Seg: seg, Page: page, At: int64(d.draw(32))})
				}
			}
		}
	}
	for i := range k.Words {
		k.Words[i] = int64(d.draw(65536))
	}
	return k
}

// checkKernel holds all calls against the document's words, of one kernel, right or not.
func checkKernel(t *testing.T, d *dice, k impl.Kernel) {
	t.Helper()
	before := fmt.Sprintf("%+v", k)
	same(t, "right", impl.KernelRight(k), kernelRightByWords(k))
	for _, h := range append(liveOf(k), impl.Handle{}, impl.Handle{By: 1, Id: 2, Gen: 1}) {
		found := impl.Find(k, h)
		alike(t, "find", found, thingByWords(k, h))
		same(t, "find: new memory", newMemory(found, k), true)
		for _, who := range []int64{0, h.By, int64(d.draw(16)), 15, 16, -1} {
			kids, room := insideByWords(k, who, h)
			for _, one := range []struct {
				what      string
				got, want impl.KernOut
			}{
				{"info", impl.InfoOf(k, who, h), infoByWords(k, who, h)},
				{"kids", impl.KidsOf(k, who, h), kids},
				{"room", impl.RoomOf(k, who, h), room},
				{"drop", impl.Drop(k, who, h), dropThingByWords(k, who, h)},
				{"make", impl.Make(k, who, h, 1, 15, 1), makeByWords(k, who, h, 1, 15, 1)},
				{"make", impl.Make(k, who, h, 2, who, 0), makeByWords(k, who, h, 2, who, 0)},
				{"make", impl.Make(k, who, h, 3, 15, 0), makeByWords(k, who, h, 3, 15, 0)},
			} {
				alike(t, one.what, one.got, one.want)
				same(t, one.what+": new memory", newMemory(one.got, k), true)
				if one.got.Code == impl.OK {
					same(t, one.what+": right", impl.KernelRight(one.got.Kernel), true)
				}
			}
		}
	}
	same(t, "not changed", fmt.Sprintf("%+v", k), before)
}

// stepped is the kernel behind one more drawn call, or as it was, if that is refused.
func stepped(d *dice, k impl.Kernel) impl.Kernel {
	var out impl.KernOut
	if d.draw(4) > 0 {
		who, box, kind, of, order := drawnMake(d, k, nil)
		out = impl.Make(k, who, box, kind, of, order)
	} else {
		h := someName(d, k, nil)
		out = impl.Drop(k, h.By, h)
	}
	if out.Code != impl.OK {
		return k
	}
	return out.Kernel
}

func TestKernelsByTheDocument(t *testing.T) {
	d := dice(2463534242)
	many := map[bool]int{}
	for round := range 120 {
		k := impl.KernelNew(int64(d.draw(65536))).Kernel
		for range d.draw(40) {
			k = stepped(&d, k)
		}
		if round%2 == 0 {
			k = shaken(&d, k)
		}
		if round%5 == 0 {
			spoil(&d, &k.Arenas[d.draw(16)])
		}
		many[kernelRightByWords(k)]++
		checkKernel(t, &d, k)
		if t.Failed() {
			t.FailNow()
		}
	}
	if many[true] < 60 || many[false] < 10 {
		t.Errorf("right and wrong: %v", many)
	}
}

// What is written into an answer does not come back to what was handed in, nor to another list of the answer.
func TestAnswersAreNewMemory(t *testing.T) {
	w := newTown(t)
	before := fmt.Sprintf("%+v", w.k)
	kids := impl.KidsOf(w.k, 15, w.yard)
	same(t, "new memory", newMemory(kids, w.k), true)
	kids.Handles[0].Id = -7
	same(t, "another list", impl.Find(kids.Kernel, w.yard).Kids[0], w.well)
	for _, out := range []impl.KernOut{
		kids, impl.RoomOf(w.k, 15, w.yard), impl.InfoOf(w.k, 15, w.yard), impl.Drop(w.k, 0, w.shed),
		impl.Make(w.k, 0, w.shed, impl.KdSeg, 0, 0), impl.Make(w.k, 0, w.shed, impl.KdSpace, 0, 0),
	} {
		same(t, "code", out.Code, int64(impl.OK))
		out.Kernel.Words[20] = -7
		for _, a := range out.Kernel.Arenas {
			for i := range a.Slots {
				o := &a.Slots[i].Obj
				for j := range o.Kids {
					o.Kids[j].Id = -7
				}
				for j := range o.Room.Free {
					o.Room.Free[j].At = -7
				}
				for j := range o.Maps {
					o.Maps[j].Va = -7
				}
				for j := range o.Fasts {
					o.Fasts[j].Va = -7
				}
				a.Slots[i].Gen = -7
			}
		}
		out.Kernel.Arenas[3].Label = -7
		same(t, "handed in, not changed", fmt.Sprintf("%+v", w.k), before)
	}
	found := impl.Find(w.k, w.yard)
	found.Kids[0].Id, found.Room.Free[0].At = -7, -7
	same(t, "handed in, not changed", fmt.Sprintf("%+v", w.k), before)
	same(t, "new memory", newMemory(impl.KernelNew(1), impl.KernelNew(1)), true)
}

// Lists that are shared in what is handed in, or have more behind them, are neither shared nor written on.
func TestSharedListsOfKernels(t *testing.T) {
	w := newTown(t)
	kids := append(slices.Clone(w.obj(w.shed).Kids), impl.Handle{Id: 1}, impl.Handle{Id: 2})
	w.obj(w.shed).Kids = kids[:0]
	w.obj(w.nest).Kids = kids[:0]
	free := []impl.Block{{Order: 2}, {At: 77}, {At: 78}}
	w.obj(w.shed).Room.Free = free[:1]
	half := []impl.Block{{At: 16, Order: 4}, {At: 77}, {At: 78}, {At: 79}}
	w.obj(w.root).Room.Free = half[:1]
	words := append(slices.Clone(w.k.Words), 5, 6)
	w.k.Words = words[:64]
	same(t, "right", impl.KernelRight(w.k), true)
	for _, out := range []impl.KernOut{
		impl.Make(w.k, 0, w.shed, impl.KdSeg, 0, 0), impl.Make(w.k, 3, w.nest, impl.KdSpace, 3, 0), impl.Drop(w.k, 0, w.shed),
		impl.KidsOf(w.k, 15, w.shed), impl.RoomOf(w.k, 15, w.nest),
	} {
		same(t, "code", out.Code, int64(impl.OK))
		same(t, "new memory", newMemory(out, w.k, kids, free, half, words), true)
		same(t, "behind the kids", kids, []impl.Handle{{Id: 1}, {Id: 2}})
		same(t, "behind the room", free, []impl.Block{{Order: 2}, {At: 77}, {At: 78}})
		same(t, "behind the room of what has kids", half, []impl.Block{{At: 16, Order: 4}, {At: 77}, {At: 78}, {At: 79}})
		same(t, "behind the words", words[64:], []int64{5, 6})
	}
}

// Nothing is kept from call to call: the same call tells the same.
func TestTheSameCallTellsTheSame(t *testing.T) {
	w := newTown(t)
	first := impl.Make(w.k, 1, w.yard, impl.KdSeg, 5, 0)
	for range 20 {
		impl.Drop(w.k, 0, w.yard)
		impl.Make(w.k, 0, w.shed, impl.KdSeg, 5, 0)
		alike(t, "make", impl.Make(w.k, 1, w.yard, impl.KdSeg, 5, 0), first)
	}
}
