package tests

import (
	"fmt"
	"slices"
	"testing"

	"loop.example/g00740/impl"
)

// made is the kernel and the handle of a Make that must be OK, and that is held against the document's words.
func made(t *testing.T, k impl.Kernel, who int64, box impl.Handle, kind int64, of int64, order int64) (impl.Kernel, impl.Handle) {
	t.Helper()
	out := impl.Make(k, who, box, kind, of, order)
	if out.Code != impl.OK {
		t.Fatalf("make of kind %d by %d: code %d", kind, who, out.Code)
	}
	alike(t, "make", out, makeByWords(k, who, box, kind, of, order))
	return out.Kernel, out.Handle
}

// town is a kernel with things of all kinds, made by several labels, in boxes within boxes.
type town struct {
	k impl.Kernel

	root, // by 0, of 0, 32 pages from 0 on
	yard, // box in root, by 0, of 1, 8 pages from 0 on
	plot, // segment in root, by 0, of 0, 4 pages from 8 on
	map0, // space in root, by 0, of 0
	shed, // box in root, by 0, of 0, 4 pages from 12 on
	well, // segment in yard, by 1, of 1, 2 pages from 0 on
	map1, // space in yard, by 1, of 3
	barn, // box in yard, by 1, of 3, 4 pages from 4 on
	safe, // segment in yard, by 1, of 15, 1 page from 2 on
	loft, // segment in barn, by 3, of 7, 1 page from 4 on
	nest impl.Handle // box in barn, by 3, of 3, 1 page from 5 on
}

func newTown(t *testing.T) town {
	t.Helper()
	out := impl.KernelNew(5)
	w := town{k: out.Kernel, root: out.Handle}
	w.k, w.yard = made(t, w.k, 0, w.root, impl.KdBox, 1, 3)
	w.k, w.plot = made(t, w.k, 0, w.root, impl.KdSeg, 0, 2)
	w.k, w.map0 = made(t, w.k, 0, w.root, impl.KdSpace, 0, 0)
	w.k, w.shed = made(t, w.k, 0, w.root, impl.KdBox, 0, 2)
	w.k, w.well = made(t, w.k, 1, w.yard, impl.KdSeg, 1, 1)
	w.k, w.map1 = made(t, w.k, 1, w.yard, impl.KdSpace, 3, 0)
	w.k, w.barn = made(t, w.k, 1, w.yard, impl.KdBox, 3, 2)
	w.k, w.safe = made(t, w.k, 1, w.yard, impl.KdSeg, 15, 0)
	w.k, w.loft = made(t, w.k, 3, w.barn, impl.KdSeg, 7, 0)
	w.k, w.nest = made(t, w.k, 3, w.barn, impl.KdBox, 3, 0)
	for i := range w.k.Words {
		w.k.Words[i] = int64(1000 + i)
	}
	space := &slotOf(w.k, w.map1).Obj
	space.Maps = []impl.Map{{Va: 0, Seg: w.well, Page: 1}, {Va: 3, Seg: w.loft}, {Va: 7, Seg: impl.Handle{By: -5}, Page: 31}}
	space.Fasts = []impl.Fast{{Va: 0, Seg: w.well, Page: 1, At: 1}, {Va: 7, Seg: impl.Handle{By: -5}, Page: 31, At: 31}}
	return w
}

func TestKernelLimits(t *testing.T) {
	same(t, "RootPages", impl.RootPages, 32)
	same(t, "PageWords", impl.PageWords, 2)
}

func TestKernelNewByHand(t *testing.T) {
	out := impl.KernelNew(5)
	same(t, "code", out.Code, int64(impl.OK))
	same(t, "seed", out.Kernel.Seed, int64(5))
	same(t, "arenas", len(out.Kernel.Arenas), 16)
	for l, a := range out.Kernel.Arenas {
		same(t, "label", a.Label, int64(l))
		same(t, "key", a.Names.Key, int64(155+977*l+7))
		if l > 0 {
			same(t, "count", a.Names.Count, int64(0))
			same(t, "slots", len(a.Slots), 0)
		}
	}
	id := permuteByWords(162, 0)
	same(t, "root's name", out.Handle, impl.Handle{Id: id})
	same(t, "root's arena", out.Kernel.Arenas[0].Names.Count, int64(1))
	root := impl.Obj{Kind: impl.KdBox, Order: 5, Room: impl.Buddy{Order: 5, Free: []impl.Block{{At: 0, Order: 5}}}}
	alike(t, "root", out.Kernel.Arenas[0].Slots, []impl.Slot{{Live: true, Id: id, Obj: root}})
	alike(t, "found", impl.Find(out.Kernel, out.Handle), root)
	same(t, "words", out.Kernel.Words, make([]int64, 64))
	same(t, "nothing else is told", out.N == 0 && out.Handles == nil, true)
	same(t, "right", impl.KernelRight(out.Kernel), true)
}

func TestKernelNewOfAllSeeds(t *testing.T) {
	for seed := int64(-3); seed <= 65540; seed++ {
		if seed > 100 && seed < 65400 && seed%97 != 0 {
			continue
		}
		out := impl.KernelNew(seed)
		alike(t, "KernelNew", out, kernelNewByWords(seed))
		same(t, "right", impl.KernelRight(out.Kernel), seed >= 0 && seed <= 65535)
		same(t, "new memory", newMemory(out, impl.KernelNew(seed)), true)
		if t.Failed() {
			t.FailNow()
		}
	}
	for _, seed := range noKeys {
		alike(t, "no seed", impl.KernelNew(seed), impl.KernOut{Code: impl.ErrForm})
	}
}

func TestTownByHand(t *testing.T) {
	w := newTown(t)
	same(t, "right", impl.KernelRight(w.k), true)
	for _, one := range []struct {
		what  string
		h     impl.Handle
		by    int64
		place int64
		want  impl.Obj
	}{
		{"root", w.root, 0, 0, impl.Obj{Kind: 1, Order: 5, Room: impl.Buddy{Order: 5, Free: []impl.Block{{At: 16, Order: 4}}}, Kids: []impl.Handle{w.yard, w.plot, w.map0, w.shed}}},
		{"yard", w.yard, 0, 1, impl.Obj{Kind: 1, Of: 1, Order: 3, Up: w.root, Room: impl.Buddy{Order: 3, Free: []impl.Block{{At: 3}}}, Kids: []impl.Handle{w.well, w.map1, w.barn, w.safe}}},
		{"plot", w.plot, 0, 2, impl.Obj{Kind: 2, Order: 2, At: 8, Up: w.root}},
		{"map0", w.map0, 0, 3, impl.Obj{Kind: 3, Up: w.root}},
		{"shed", w.shed, 0, 4, impl.Obj{Kind: 1, Order: 2, At: 12, Up: w.root, Room: impl.Buddy{Order: 2, Free: []impl.Block{{Order: 2}}}}},
		{"well", w.well, 1, 0, impl.Obj{Kind: 2, Of: 1, Order: 1, Up: w.yard}},
		{"barn", w.barn, 1, 2, impl.Obj{Kind: 1, Of: 3, Order: 2, At: 4, Up: w.yard, Room: impl.Buddy{Order: 2, Free: []impl.Block{{At: 2, Order: 1}}}, Kids: []impl.Handle{w.loft, w.nest}}},
		{"safe", w.safe, 1, 3, impl.Obj{Kind: 2, Of: 15, At: 2, Up: w.yard}},
		{"loft", w.loft, 3, 0, impl.Obj{Kind: 2, Of: 7, At: 4, Up: w.barn}},
		{"nest", w.nest, 3, 1, impl.Obj{Kind: 1, Of: 3, At: 5, Up: w.barn, Room: impl.Buddy{Free: []impl.Block{{}}}}},
	} {
		alike(t, one.what, impl.Find(w.k, one.h), one.want)
		key := w.k.Arenas[one.by].Names.Key
		same(t, one.what+": its name", one.h, impl.Handle{By: one.by, Id: permuteByWords(key, one.place)})
		same(t, one.what+": in the arena of who made it", impl.ArenaFind(w.k.Arenas[one.by], one.h), one.place)
		info := impl.InfoOf(w.k, one.by, one.h)
		alike(t, one.what+": info", info, impl.KernOut{Kernel: w.k, N: one.want.Kind + 10*one.want.Order + 100*one.want.Of})
	}
	alike(t, "kids of the yard", impl.KidsOf(w.k, 1, w.yard), impl.KernOut{Kernel: w.k, Handles: []impl.Handle{w.well, w.map1, w.barn, w.safe}})
	alike(t, "room of the barn", impl.RoomOf(w.k, 3, w.barn), impl.KernOut{Kernel: w.k, N: 2})
	same(t, "room of the root", impl.RoomOf(w.k, 0, w.root).N, int64(16))
	same(t, "info of the safe", impl.InfoOf(w.k, 1, w.safe).N, int64(1502))
	same(t, "info of the barn", impl.InfoOf(w.k, 15, w.barn).N, int64(321))
	same(t, "root", impl.RootOf(w.k), w.root)
	for l := range int64(16) {
		want := map[int64]int{0: 5, 1: 4, 3: 2}[l]
		same(t, "things in an arena", len(w.k.Arenas[l].Slots), want)
	}
}

// Who may know what: that there is a thing whoever its By flows to, what is in it whoever its Of flows to.
func TestWhoIsToldWhat(t *testing.T) {
	w := newTown(t)
	for _, h := range liveOf(w.k) {
		o := impl.Find(w.k, h)
		for who := range int64(16) {
			none := impl.KernOut{Code: impl.ErrNone}
			info := none
			if flowsByLetters(h.By, who) {
				info = impl.KernOut{Kernel: w.k, N: o.Kind + 10*o.Order + 100*o.Of}
			}
			alike(t, "info", impl.InfoOf(w.k, who, h), info)
			kids, room := none, none
			if o.Kind == impl.KdBox && flowsByLetters(o.Of, who) {
				kids = impl.KernOut{Kernel: w.k, Handles: o.Kids}
				room = impl.KernOut{Kernel: w.k, N: int64(len(freeSet(o).pages()))}
			}
			alike(t, "kids", impl.KidsOf(w.k, who, h), kids)
			alike(t, "room", impl.RoomOf(w.k, who, h), room)
		}
	}
}

func TestDropByHand(t *testing.T) {
	w := newTown(t)
	out := impl.Drop(w.k, 1, w.barn)
	same(t, "code", out.Code, int64(impl.OK))
	same(t, "nothing else is told", out.Handle == impl.Handle{} && out.N == 0 && out.Handles == nil, true)
	for _, gone := range []impl.Handle{w.barn, w.loft, w.nest} {
		alike(t, "gone", impl.Find(out.Kernel, gone), impl.Obj{})
	}
	yard := impl.Find(w.k, w.yard)
	yard.Kids = []impl.Handle{w.well, w.map1, w.safe}
	yard.Room.Free = []impl.Block{{At: 3}, {At: 4, Order: 2}}
	alike(t, "the yard", impl.Find(out.Kernel, w.yard), yard)
	for _, stays := range []impl.Handle{w.root, w.plot, w.map0, w.shed, w.well, w.map1, w.safe} {
		alike(t, "stays", impl.Find(out.Kernel, stays), impl.Find(w.k, stays))
	}
	alike(t, "its slots", out.Kernel.Arenas[3].Slots, []impl.Slot{{Gen: 1}, {Gen: 1}})
	alike(t, "its own slot", out.Kernel.Arenas[1].Slots[2], impl.Slot{Gen: 1})
	for l, a := range out.Kernel.Arenas {
		same(t, "no name is given back", a.Names, w.k.Arenas[l].Names)
	}
	same(t, "words", out.Kernel.Words, w.k.Words)
	same(t, "right", impl.KernelRight(out.Kernel), true)

	whole := impl.Drop(out.Kernel, 0, w.yard)
	same(t, "all of the yard is gone", len(liveOf(whole.Kernel)), 4)
	alike(t, "the root", impl.Find(whole.Kernel, w.root).Kids, []impl.Handle{w.plot, w.map0, w.shed})
	alike(t, "its room", impl.Find(whole.Kernel, w.root).Room.Free, []impl.Block{{At: 0, Order: 3}, {At: 16, Order: 4}})
	space := impl.Drop(w.k, 0, w.map0)
	alike(t, "a space gives no pages back", impl.Find(space.Kernel, w.root).Room.Free, []impl.Block{{At: 16, Order: 4}})
	alike(t, "but is no kid", impl.Find(space.Kernel, w.root).Kids, []impl.Handle{w.yard, w.plot, w.shed})
}

// Slots of what is gone are used again, under names that never were.
func TestMadeBehindADrop(t *testing.T) {
	w := newTown(t)
	k := impl.Drop(w.k, 1, w.barn).Kernel
	k, barn := made(t, k, 1, w.yard, impl.KdBox, 3, 2)
	key := w.k.Arenas[1].Names.Key
	same(t, "the same slot, the next Gen, the next Id", barn, impl.Handle{By: 1, Id: permuteByWords(key, 4), Gen: 1})
	k, loft := made(t, k, 3, barn, impl.KdSeg, 3, 0)
	for _, gone := range []impl.Handle{w.barn, w.loft, w.nest, {By: 1, Id: w.barn.Id, Gen: 1}, {By: 1, Id: barn.Id}} {
		alike(t, "no name again", impl.Find(k, gone), impl.Obj{})
		for who := range int64(16) {
			alike(t, "info", impl.InfoOf(k, who, gone), impl.KernOut{Code: impl.ErrNone})
			alike(t, "kids", impl.KidsOf(k, who, gone), impl.KernOut{Code: impl.ErrNone})
			alike(t, "room", impl.RoomOf(k, who, gone), impl.KernOut{Code: impl.ErrNone})
			alike(t, "drop", impl.Drop(k, who, gone), impl.KernOut{Code: impl.ErrNone})
			alike(t, "make", impl.Make(k, who, gone, impl.KdSpace, who, 0), impl.KernOut{Code: impl.ErrNone})
		}
	}
	same(t, "what is there now", impl.Find(k, loft).Up, barn)
}

func TestWordsOfANewSegment(t *testing.T) {
	w := newTown(t)
	k := impl.Drop(w.k, 1, w.well).Kernel
	same(t, "a drop leaves the words", k.Words, w.k.Words)
	for order := int64(0); order <= 1; order++ {
		out, seg := made(t, k, 1, w.yard, impl.KdSeg, 3, order)
		o := impl.Find(out, seg)
		for i, word := range out.Words {
			page := int64(i / 2)
			want := int64(1000 + i)
			if page >= o.At && page < o.At+sizeOf(order) {
				want = 0
			}
			same(t, "word", word, want)
		}
	}
	for kind, order := range map[int64]int64{impl.KdBox: 1, impl.KdSpace: 0} {
		out, _ := made(t, k, 1, w.yard, kind, 3, order)
		same(t, "only a segment has words", out.Words, w.k.Words)
	}
	all := impl.KernelNew(9)
	for i := range all.Kernel.Words {
		all.Kernel.Words[i] = 65535
	}
	out, _ := made(t, all.Kernel, 0, all.Handle, impl.KdSeg, 0, 5)
	same(t, "all words", out.Words, make([]int64, 64))
	same(t, "what was handed in", all.Kernel.Words[0], int64(65535))
}

// Promise 7: whatever is made and dropped again, its box has what it had, and all others are as they were.
func TestDroppedAgainAllIsAsItWas(t *testing.T) {
	w := newTown(t)
	for _, box := range []impl.Handle{w.root, w.yard, w.shed, w.barn, w.nest} {
		who := impl.Find(w.k, box).Of
		for kind := int64(impl.KdBox); kind <= impl.KdSpace; kind++ {
			for order := int64(0); order <= 5; order++ {
				out := impl.Make(w.k, who, box, kind, 15, order)
				alike(t, "make", out, makeByWords(w.k, who, box, kind, 15, order))
				if out.Code != impl.OK {
					continue
				}
				same(t, "right", impl.KernelRight(out.Kernel), true)
				same(t, "its By", out.Handle.By, who)
				o := impl.Find(out.Kernel, out.Handle)
				same(t, "it is there", []int64{o.Kind, o.Of, o.Order}, []int64{kind, 15, order})
				kids := impl.KidsOf(out.Kernel, who, box).Handles
				same(t, "behind the others", kids, append(slices.Clone(impl.KidsOf(w.k, who, box).Handles), out.Handle))
				back := impl.Drop(out.Kernel, who, out.Handle)
				for _, h := range liveOf(w.k) {
					alike(t, "as it was", impl.Find(back.Kernel, h), impl.Find(w.k, h))
				}
				same(t, "no more than that", liveOf(back.Kernel), liveOf(w.k))
				same(t, "right", impl.KernelRight(back.Kernel), true)
			}
		}
	}
}

// Promise 8: of each thing that may be dropped, just what is in it is gone.
func TestJustWhatIsInItIsGone(t *testing.T) {
	w := newTown(t)
	for _, h := range liveOf(w.k)[1:] {
		out := impl.Drop(w.k, h.By, h)
		alike(t, "drop", out, dropThingByWords(w.k, h.By, h))
		for _, other := range liveOf(w.k) {
			within := false
			for at := other; at != w.root; at = impl.Find(w.k, at).Up {
				within = within || at == h
			}
			same(t, fmt.Sprintf("%v gone with %v", other, h), impl.Find(out.Kernel, other).Kind == 0, within)
		}
		same(t, "right", impl.KernelRight(out.Kernel), true)
	}
}

// A chain of boxes, each in the one ahead, as deep as arenas allow, goes as a whole.
func TestADeepChainGoes(t *testing.T) {
	out := impl.KernelNew(77)
	k, box := out.Kernel, out.Handle
	var chain []impl.Handle
	for i, who := range []int64{0, 1, 3, 7, 15} {
		for step := range impl.MaxSlots {
			of := who
			if step == impl.MaxSlots-1 && who < 15 {
				of = who*2 + 1
			}
			if i == 0 && step == 0 {
				continue // the root has that slot
			}
			k, box = made(t, k, who, box, impl.KdBox, of, 5)
			chain = append(chain, box)
		}
	}
	same(t, "how many", len(chain), 29)
	same(t, "right", impl.KernelRight(k), true)
	same(t, "nothing is left", impl.Make(k, 15, box, impl.KdSeg, 15, 5).Code, int64(impl.ErrFull))
	for i, h := range chain {
		gone := impl.Drop(k, h.By, h)
		alike(t, "drop", gone, dropThingByWords(k, h.By, h))
		same(t, "what is left", len(liveOf(gone.Kernel)), i+1)
		same(t, "right", impl.KernelRight(gone.Kernel), true)
	}
}
