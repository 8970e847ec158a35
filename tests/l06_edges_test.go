package tests

import (
	"testing"

	"loop.example/g00740/impl"
)

// faulted asks for a code, and for nothing beside it.
func faulted(t *testing.T, what string, got impl.KernOut, code int64) {
	t.Helper()
	alike(t, what, got, impl.KernOut{Code: code})
}

func TestWhoAtItsEdges(t *testing.T) {
	w := newTown(t)
	for _, who := range noLabels {
		faulted(t, "make", impl.Make(w.k, who, w.root, impl.KdSeg, 15, 0), impl.ErrForm)
		faulted(t, "make, of it", impl.Make(w.k, who, w.root, impl.KdSeg, who, 0), impl.ErrForm)
		faulted(t, "drop", impl.Drop(w.k, who, w.plot), impl.ErrForm)
		faulted(t, "drop of nothing", impl.Drop(w.k, who, impl.Handle{By: who}), impl.ErrForm)
		faulted(t, "kids", impl.KidsOf(w.k, who, w.root), impl.ErrForm)
		faulted(t, "info", impl.InfoOf(w.k, who, w.root), impl.ErrForm)
		faulted(t, "info of nothing", impl.InfoOf(w.k, who, impl.Handle{By: who}), impl.ErrForm)
		faulted(t, "room", impl.RoomOf(w.k, who, w.root), impl.ErrForm)
	}
	for who := range int64(16) {
		same(t, "kids", impl.KidsOf(w.k, who, w.root).Code, int64(impl.OK))
		same(t, "info", impl.InfoOf(w.k, who, w.root).Code, int64(impl.OK))
		same(t, "room", impl.RoomOf(w.k, who, w.root).Code, int64(impl.OK))
	}
}

func TestOfAtItsEdges(t *testing.T) {
	for who := range int64(16) {
		out := impl.KernelNew(3)
		k, box := out.Kernel, out.Handle
		if who > 0 {
			k, box = made(t, k, 0, box, impl.KdBox, who, 3)
		}
		for of := int64(-2); of <= 17; of++ {
			for kind := int64(impl.KdBox); kind <= impl.KdSpace; kind++ {
				got := impl.Make(k, who, box, kind, of, 0)
				alike(t, "make", got, makeByWords(k, who, box, kind, of, 0))
				if of < 0 || of > 15 || !flowsByLetters(who, of) {
					faulted(t, "who does not flow there", got, impl.ErrForm)
				} else {
					same(t, "who flows there", got.Code, int64(impl.OK))
					same(t, "its Of", impl.Find(got.Kernel, got.Handle).Of, of)
				}
			}
		}
		for _, of := range noLabels {
			faulted(t, "of no label", impl.Make(k, who, box, impl.KdSeg, of, 0), impl.ErrForm)
		}
	}
}

func TestKindsAndOrdersAtTheirEdges(t *testing.T) {
	out := impl.KernelNew(12)
	for kind := int64(-2); kind <= 6; kind++ {
		for order := int64(-2); order <= 7; order++ {
			right := order >= 0 && order <= 5 && (kind == impl.KdBox || kind == impl.KdSeg) || kind == impl.KdSpace && order == 0
			got := impl.Make(out.Kernel, 0, out.Handle, kind, 0, order)
			alike(t, "make", got, makeByWords(out.Kernel, 0, out.Handle, kind, 0, order))
			if !right {
				faulted(t, "no such thing", got, impl.ErrForm)
				continue
			}
			o := impl.Find(got.Kernel, got.Handle)
			same(t, "kind and order", []int64{o.Kind, o.Order}, []int64{kind, order})
		}
	}
	for _, n := range append([]int64{4, 0, -1, 257}, wideNumbers...) {
		faulted(t, "kind", impl.Make(out.Kernel, 0, out.Handle, n, 0, 0), impl.ErrForm)
	}
	for _, order := range noOrders {
		for kind := int64(impl.KdBox); kind <= impl.KdSpace; kind++ {
			faulted(t, "order", impl.Make(out.Kernel, 0, out.Handle, kind, 0, order), impl.ErrForm)
		}
	}
}

// noNames are handles that are near to one, and are none in a kernel where that Id is had but once.
func noNames(h impl.Handle) []impl.Handle {
	out := []impl.Handle{
		{By: h.By, Id: h.Id, Gen: h.Gen + 1}, {By: h.By, Id: h.Id, Gen: h.Gen - 1}, {By: h.By, Id: h.Id, Gen: impl.MaxGen},
		{By: h.By, Id: h.Id + 65536, Gen: h.Gen}, {By: h.By, Id: ^h.Id, Gen: h.Gen},
		{By: h.By + 16, Id: h.Id, Gen: h.Gen}, {By: h.By - 16, Id: h.Id, Gen: h.Gen}, {By: -1, Id: h.Id, Gen: h.Gen},
		{By: 15, Id: h.Id, Gen: h.Gen}, {Gen: impl.MaxGen},
	}
	for _, n := range wideNumbers {
		out = append(out, impl.Handle{By: n, Id: h.Id, Gen: h.Gen}, impl.Handle{By: h.By, Id: n, Gen: h.Gen}, impl.Handle{By: h.By, Id: h.Id, Gen: n})
	}
	return out
}

func TestHandlesThatAreNone(t *testing.T) {
	w := newTown(t)
	for _, h := range liveOf(w.k) {
		for _, no := range noNames(h) {
			alike(t, "find", impl.Find(w.k, no), impl.Obj{})
			for _, who := range []int64{0, 1, 3, 15, h.By} {
				faulted(t, "make", impl.Make(w.k, who, no, impl.KdSpace, 15, 0), impl.ErrNone)
				faulted(t, "drop", impl.Drop(w.k, who, no), impl.ErrNone)
				faulted(t, "kids", impl.KidsOf(w.k, who, no), impl.ErrNone)
				faulted(t, "info", impl.InfoOf(w.k, who, no), impl.ErrNone)
				faulted(t, "room", impl.RoomOf(w.k, who, no), impl.ErrNone)
			}
		}
	}
}

// Only a box takes things in, and only from who is its Of: neither from a lesser nor from a greater label.
func TestWhereOneMayMake(t *testing.T) {
	w := newTown(t)
	for _, h := range liveOf(w.k) {
		o := impl.Find(w.k, h)
		for who := range int64(16) {
			got := impl.Make(w.k, who, h, impl.KdSpace, 15, 0)
			if o.Kind == impl.KdBox && o.Of == who {
				same(t, "in a box of who's", got.Code, int64(impl.OK))
				same(t, "by who", got.Handle.By, who)
				same(t, "in who's arena", impl.ArenaFind(got.Kernel.Arenas[who], got.Handle) >= 0, true)
			} else {
				faulted(t, "in no box of who's", got, impl.ErrNone)
			}
		}
	}
}

func TestWhoMayDrop(t *testing.T) {
	w := newTown(t)
	for _, h := range liveOf(w.k) {
		for who := range int64(16) {
			got := impl.Drop(w.k, who, h)
			if h.By == who && h != w.root {
				same(t, "by who made it", got.Code, int64(impl.OK))
			} else {
				faulted(t, "by another one, or the root", got, impl.ErrNone)
			}
		}
	}
	gone := impl.Drop(w.k, 0, w.plot)
	faulted(t, "dropped twice", impl.Drop(gone.Kernel, 0, w.plot), impl.ErrNone)
}

func TestAFullRoom(t *testing.T) {
	out := impl.KernelNew(21)
	k, small := made(t, out.Kernel, 0, out.Handle, impl.KdBox, 2, 1)
	faulted(t, "more than all", impl.Make(k, 2, small, impl.KdSeg, 2, 2), impl.ErrFull)
	faulted(t, "more than all, a box", impl.Make(k, 2, small, impl.KdBox, 2, 5), impl.ErrFull)
	k, low := made(t, k, 2, small, impl.KdSeg, 2, 0)
	faulted(t, "more than is left", impl.Make(k, 2, small, impl.KdSeg, 2, 1), impl.ErrFull)
	k, _ = made(t, k, 2, small, impl.KdBox, 2, 0)
	for order := range int64(6) {
		faulted(t, "nothing is left", impl.Make(k, 2, small, impl.KdSeg, 2, order), impl.ErrFull)
		faulted(t, "nothing is left, for a box", impl.Make(k, 2, small, impl.KdBox, 2, order), impl.ErrFull)
	}
	k, _ = made(t, k, 2, small, impl.KdSpace, 2, 0)
	k = impl.Drop(k, 2, low).Kernel
	same(t, "room again", impl.RoomOf(k, 2, small).N, int64(1))
	_, again := made(t, k, 2, small, impl.KdSeg, 2, 0)
	same(t, "a name of its own", again == low, false)
}

// Pages that are free, but in no aligned block together, are not enough.
func TestARoomInPieces(t *testing.T) {
	out := impl.KernelNew(4)
	k, box := made(t, out.Kernel, 0, out.Handle, impl.KdBox, 8, 2)
	var segs []impl.Handle
	for range 4 {
		var seg impl.Handle
		k, seg = made(t, k, 8, box, impl.KdSeg, 8, 0)
		segs = append(segs, seg)
	}
	k = impl.Drop(k, 8, segs[1]).Kernel
	k = impl.Drop(k, 8, segs[2]).Kernel
	same(t, "two pages", impl.RoomOf(k, 8, box).N, int64(2))
	same(t, "kids", impl.KidsOf(k, 8, box).Handles, []impl.Handle{segs[0], segs[3]})
	faulted(t, "in pieces", impl.Make(k, 8, box, impl.KdSeg, 8, 1), impl.ErrFull)
	k = impl.Drop(k, 8, segs[0]).Kernel
	_, seg := made(t, k, 8, box, impl.KdSeg, 8, 1)
	same(t, "fellows", seg.Gen, int64(1))
}

func TestAFullArena(t *testing.T) {
	out := impl.KernelNew(60)
	k := out.Kernel
	var spaces []impl.Handle
	for range impl.MaxSlots - 1 {
		var space impl.Handle
		k, space = made(t, k, 0, out.Handle, impl.KdSpace, 0, 0)
		spaces = append(spaces, space)
	}
	for kind := int64(impl.KdBox); kind <= impl.KdSpace; kind++ {
		faulted(t, "no slot is left", impl.Make(k, 0, out.Handle, kind, 15, 0), impl.ErrFull)
	}
	same(t, "room there is", impl.RoomOf(k, 0, out.Handle).N, int64(32))

	// Each slot is used MaxGen times, and then no more.
	for range impl.MaxGen - 1 {
		for i, space := range spaces {
			k = impl.Drop(k, 0, space).Kernel
			k, spaces[i] = made(t, k, 0, out.Handle, impl.KdSpace, 0, 0)
		}
	}
	for _, space := range spaces {
		k = impl.Drop(k, 0, space).Kernel
		faulted(t, "its slot is used up", impl.Make(k, 0, out.Handle, impl.KdSpace, 0, 0), impl.ErrFull)
	}
	same(t, "the root alone", liveOf(k), []impl.Handle{out.Handle})
	same(t, "right", impl.KernelRight(k), true)
}

func TestAnArenaAtTheEndOfItsStream(t *testing.T) {
	w := newTown(t)
	w.k.Arenas[1].Names.Count = impl.MaxIds
	for kind := int64(impl.KdBox); kind <= impl.KdSpace; kind++ {
		faulted(t, "no name is left", impl.Make(w.k, 1, w.yard, kind, 1, 0), impl.ErrFull)
	}
	same(t, "for others there are", impl.Make(w.k, 3, w.barn, impl.KdSpace, 3, 0).Code, int64(impl.OK))
	w.k.Arenas[1].Names.Count--
	_, last := made(t, w.k, 1, w.yard, impl.KdSpace, 1, 0)
	same(t, "the last name", last, impl.Handle{By: 1, Id: permuteByWords(w.k.Arenas[1].Names.Key, 999)})
}

// Faults are told in the order of the document: of a call with two of them the first one.
func TestTheOrderOfFaults(t *testing.T) {
	w := newTown(t)
	k := w.k
	k, _ = made(t, k, 1, w.yard, impl.KdSeg, 1, 0) // now there is no room in yard
	full := copyKernel(k)
	full.Arenas[1].Names.Count = impl.MaxIds
	there := copyKernel(k)
	there.Arenas[1].Names.Count = 0 // the next name is the one of well

	faulted(t, "form ahead of none", impl.Make(k, 1, w.well, 4, 1, 0), impl.ErrForm)
	faulted(t, "form ahead of none", impl.Make(k, 1, w.root, impl.KdSeg, 2, 0), impl.ErrForm)
	faulted(t, "form ahead of none", impl.Make(k, 0, w.yard, impl.KdSeg, 0, 6), impl.ErrForm)
	faulted(t, "form ahead of none", impl.Make(k, 1, w.barn, impl.KdSpace, 1, 1), impl.ErrForm)
	faulted(t, "form ahead of full", impl.Make(full, 1, w.yard, impl.KdSpace, 1, 1), impl.ErrForm)
	faulted(t, "none ahead of full", impl.Make(k, 0, w.yard, impl.KdSeg, 0, 0), impl.ErrNone)
	faulted(t, "none ahead of full", impl.Make(full, 1, w.barn, impl.KdSpace, 1, 0), impl.ErrNone)
	faulted(t, "none ahead of there", impl.Make(there, 1, w.barn, impl.KdSpace, 1, 0), impl.ErrNone)
	faulted(t, "the room's full ahead of there", impl.Make(there, 1, w.yard, impl.KdSeg, 1, 0), impl.ErrFull)
	faulted(t, "the room's full ahead of there", impl.Make(there, 1, w.yard, impl.KdBox, 1, 0), impl.ErrFull)
	faulted(t, "there, where no room is asked for", impl.Make(there, 1, w.yard, impl.KdSpace, 1, 0), impl.ErrThere)
	faulted(t, "full, where no room is asked for", impl.Make(full, 1, w.yard, impl.KdSpace, 1, 0), impl.ErrFull)

	room := copyKernel(w.k)
	room.Arenas[1].Names.Count = 0
	same(t, "right", impl.KernelRight(room), true)
	faulted(t, "there, where there is room", impl.Make(room, 1, w.yard, impl.KdSeg, 1, 0), impl.ErrThere)

	wrong := copyKernel(w.k)
	wrong.Words[63] = -1
	faulted(t, "form ahead of none", impl.Drop(wrong, 0, w.root), impl.ErrForm)
	faulted(t, "form ahead of none", impl.InfoOf(wrong, 0, w.well), impl.ErrForm)
	faulted(t, "form ahead of none", impl.KidsOf(wrong, 0, w.yard), impl.ErrForm)
	faulted(t, "form ahead of none", impl.RoomOf(wrong, 0, w.yard), impl.ErrForm)
}

// renamed is a kernel in which a thing has another Id, wherever its name stands.
func renamed(k impl.Kernel, h impl.Handle, id int64) impl.Kernel {
	k = copyKernel(k)
	slotOf(k, h).Id = id
	for _, a := range k.Arenas {
		for i := range a.Slots {
			o := &a.Slots[i].Obj
			if a.Slots[i].Live && o.Up == h && o.Up != (impl.Handle{}) {
				o.Up.Id = id
			}
			for j := range o.Kids {
				if o.Kids[j] == h {
					o.Kids[j].Id = id
				}
			}
		}
	}
	return k
}

// The zero Handle may be the root's own name; then it is the Up of what is in the root, too.
func TestARootOfTheZeroHandle(t *testing.T) {
	out := impl.KernelNew(8)
	k := renamed(out.Kernel, out.Handle, 0)
	same(t, "right", impl.KernelRight(k), true)
	same(t, "its name", impl.RootOf(k), impl.Handle{})
	k, box := made(t, k, 0, impl.Handle{}, impl.KdBox, 0, 4)
	k, seg := made(t, k, 0, box, impl.KdSeg, 2, 0)
	k, space := made(t, k, 0, impl.Handle{}, impl.KdSpace, 2, 0)
	same(t, "right", impl.KernelRight(k), true)
	faulted(t, "the root stays", impl.Drop(k, 0, impl.Handle{}), impl.ErrNone)
	for _, h := range []impl.Handle{box, seg, space} {
		gone := impl.Drop(k, 0, h)
		alike(t, "drop", gone, dropThingByWords(k, 0, h))
		same(t, "right", impl.KernelRight(gone.Kernel), true)
	}
	same(t, "room", impl.RoomOf(k, 0, impl.Handle{}).N, int64(16))
	self := renamed(out.Kernel, out.Handle, 0)
	self.Arenas[0].Slots[0].Obj.Kids = []impl.Handle{{}}
	self.Arenas[0].Slots[0].Obj.Room.Free = nil
	same(t, "the root is in nothing, not in itself", impl.KernelRight(self), false)
}

// Some other thing may have the zero Handle as its name: it is not the root, nor is the root in it.
func TestAThingOfTheZeroHandle(t *testing.T) {
	out := impl.KernelNew(8)
	k, h := made(t, out.Kernel, 0, out.Handle, impl.KdBox, 0, 5)
	k = renamed(k, h, 0)
	same(t, "right", impl.KernelRight(k), true)
	same(t, "root", impl.RootOf(k), out.Handle)
	faulted(t, "the root stays", impl.Drop(k, 0, out.Handle), impl.ErrNone)
	k, box := made(t, k, 0, impl.Handle{}, impl.KdBox, 0, 4)
	k, seg := made(t, k, 0, box, impl.KdSeg, 0, 3)
	same(t, "right", impl.KernelRight(k), true)
	for _, h := range []impl.Handle{{}, box, seg} {
		gone := impl.Drop(k, 0, h)
		alike(t, "drop", gone, dropThingByWords(k, 0, h))
		same(t, "right", impl.KernelRight(gone.Kernel), true)
	}
	for _, no := range []impl.Handle{{Gen: 1}, {By: 3}, {By: 16}, {By: -1}, seg} {
		odd := copyKernel(k)
		slotOf(odd, impl.Handle{}).Obj.Kids = []impl.Handle{box, no}
		same(t, "nothing is in it but what is there", impl.KernelRight(odd), false)
	}
	odd := impl.Drop(k, 0, box).Kernel
	slotOf(odd, impl.Handle{}).Obj.Kids = []impl.Handle{{Gen: 1}}
	slotOf(odd, impl.Handle{}).Obj.Room = pageSet(make([]bool, 32)).fill(1, 31, true).buddy(5)
	same(t, "what is none has no page", impl.KernelRight(odd), false)
	same(t, "all of it goes", liveOf(impl.Drop(k, 0, impl.Handle{}).Kernel), []impl.Handle{out.Handle})

	k, h = made(t, out.Kernel, 0, out.Handle, impl.KdBox, 0, 5)
	k = renamed(k, h, 0)
	slotOf(k, impl.Handle{}).Obj.Kids = []impl.Handle{out.Handle}
	slotOf(k, impl.Handle{}).Obj.Room.Free = nil
	same(t, "the root is in nothing", impl.KernelRight(k), false)
}
