package tests

import (
	"fmt"
	"reflect"
	"testing"

	"loop.example/g00740/impl"
)

// refusedKernel holds all calls of a kernel that is not right against what they must answer.
func refusedKernel(t *testing.T, what string, k impl.Kernel) {
	t.Helper()
	before := fmt.Sprintf("%+v", k)
	same(t, what+": right by the document's words", kernelRightByWords(k), false)
	same(t, what+": right", impl.KernelRight(k), false)
	same(t, what+": root", impl.RootOf(k), impl.Handle{})
	same(t, what+": seen", impl.SeenBy(k, 0)+impl.SeenBy(k, 15), "")
	alike(t, what+": live", impl.LiveOf(k), []impl.Handle(nil))
	for _, h := range append(liveOf(k), impl.Handle{}) {
		alike(t, what+": find", impl.Find(k, h), impl.Obj{})
		faulted(t, what+": make", impl.Make(k, 0, h, impl.KdSpace, 0, 0), impl.ErrForm)
		faulted(t, what+": drop", impl.Drop(k, h.By, h), impl.ErrForm)
		faulted(t, what+": kids", impl.KidsOf(k, 15, h), impl.ErrForm)
		faulted(t, what+": info", impl.InfoOf(k, 15, h), impl.ErrForm)
		faulted(t, what+": room", impl.RoomOf(k, 15, h), impl.ErrForm)
		faulted(t, what+": peek", impl.Peek(k, 15, h, 0), impl.ErrForm)
		faulted(t, what+": poke", impl.Poke(k, h.By, h, 0, 0), impl.ErrForm)
		faulted(t, what+": fill", impl.Fill(k, h.By, h, 0), impl.ErrForm)
		faulted(t, what+": map in", impl.MapIn(k, h.By, h, 0, h, 0), impl.ErrForm)
		faulted(t, what+": map out", impl.MapOut(k, h.By, h, 0), impl.ErrForm)
		faulted(t, what+": load", impl.Load(k, h.By, h, 0, 0), impl.ErrForm)
		faulted(t, what+": store", impl.Store(k, h.By, h, 0, 0, 0), impl.ErrForm)
		alike(t, what+": stale", impl.Stale(k, h), []int64(nil))
		alike(t, what+": spread", impl.Spread(k, h), []int64(nil))
	}
	same(t, what+": not changed", fmt.Sprintf("%+v", k), before)
}

// spoils makes one thing wrong in a town, and asks whether that is seen.
func spoils(t *testing.T, what string, how func(w *town)) {
	t.Helper()
	w := newTown(t)
	if !kernelRightByWords(w.k) || !impl.KernelRight(w.k) {
		t.Fatal("the town is not right ahead of it")
	}
	how(&w)
	refusedKernel(t, what, w.k)
}

// stays makes another town, and asks whether it is right still.
func stays(t *testing.T, what string, how func(w *town)) {
	t.Helper()
	w := newTown(t)
	how(&w)
	same(t, what+": right by the document's words", kernelRightByWords(w.k), true)
	same(t, what, impl.KernelRight(w.k), true)
}

func (w *town) obj(h impl.Handle) *impl.Obj {
	return &slotOf(w.k, h).Obj
}

func TestWrongSeeds(t *testing.T) {
	for _, n := range noKeys {
		spoils(t, "seed", func(w *town) { w.k.Seed = n })
	}
	for _, n := range []int64{0, 4, 6, 65535} {
		spoils(t, "another seed", func(w *town) { w.k.Seed = n })
	}
	refusedKernel(t, "none at all", impl.Kernel{})
}

func TestWrongArenas(t *testing.T) {
	for many := range 16 {
		spoils(t, "too few arenas", func(w *town) { w.k.Arenas = w.k.Arenas[:many] })
	}
	spoils(t, "too many arenas", func(w *town) {
		w.k.Arenas = append(w.k.Arenas, impl.Arena{Label: 15, Names: w.k.Arenas[15].Names})
	})
	spoils(t, "far too many arenas", func(w *town) { w.k.Arenas = append(w.k.Arenas, make([]impl.Arena, 1000)...) })
	for l := range 16 {
		spoils(t, "an arena of another label", func(w *town) { w.k.Arenas[l].Label = int64(15 - l) })
		spoils(t, "an arena of no label", func(w *town) { w.k.Arenas[l].Label = int64(l + 16) })
		for _, n := range append([]int64{0, 7, keyInTown(l) + 1, keyInTown(l) - 1}, noKeys...) {
			spoils(t, "an arena of another key", func(w *town) { w.k.Arenas[l].Names.Key = n })
		}
		for _, n := range []int64{-1, 1001} {
			spoils(t, "an arena that is not right, by its stream", func(w *town) { w.k.Arenas[l].Names.Count = n })
		}
		spoils(t, "an arena that is not right, by how many slots it has", func(w *town) {
			for len(w.k.Arenas[l].Slots) < 7 {
				w.k.Arenas[l].Slots = append(w.k.Arenas[l].Slots, impl.Slot{Gen: 1})
			}
		})
		for _, one := range []impl.Slot{{Gen: -1}, {Gen: 4}, {Id: 1}, {Obj: impl.Obj{Of: 1}}, {Live: true}, {Gen: 3, Live: true, Id: 9}} {
			spoils(t, "an arena that is not right, by one slot", func(w *town) {
				w.k.Arenas[l].Slots = append(w.k.Arenas[l].Slots, one)
			})
		}
		stays(t, "a slot that is free", func(w *town) {
			w.k.Arenas[l].Slots = append(w.k.Arenas[l].Slots, impl.Slot{Gen: int64(l % 4)})
			w.k.Arenas[l].Names.Count = int64(l * 60)
		})
	}
	spoils(t, "two arenas change places", func(w *town) { w.k.Arenas[4], w.k.Arenas[5] = w.k.Arenas[5], w.k.Arenas[4] })
	spoils(t, "one Id twice", func(w *town) { w.k = renamed(w.k, w.safe, w.well.Id) })
}

// keyInTown is the key of a label's arena in a town, whose seed is 5.
func keyInTown(l int) int64 {
	return int64(162 + 977*l)
}

func TestWrongWords(t *testing.T) {
	for _, many := range []int{0, 1, 32, 63} {
		spoils(t, "too few words", func(w *town) { w.k.Words = w.k.Words[:many] })
	}
	for _, many := range []int{1, 64, 1000} {
		spoils(t, "too many words", func(w *town) { w.k.Words = append(w.k.Words, make([]int64, many)...) })
	}
	for i := range 64 {
		for _, n := range []int64{-1, 65536} {
			spoils(t, "a word out of range", func(w *town) { w.k.Words[i] = n })
		}
		stays(t, "a word at its edges", func(w *town) { w.k.Words[i], w.k.Words[63-i] = 0, 65535 })
	}
	for _, n := range wideNumbers {
		spoils(t, "a word out of range", func(w *town) { w.k.Words[40] = n })
	}
}

func TestWrongRoots(t *testing.T) {
	spoils(t, "no slot", func(w *town) { w.k.Arenas[0].Slots = nil })
	fresh := impl.KernelNew(5).Kernel
	fresh.Arenas[0].Slots = nil
	refusedKernel(t, "no slot, and nothing else", fresh)
	fresh.Arenas[0].Slots = []impl.Slot{{Gen: 1}}
	refusedKernel(t, "not Live", fresh)
	root := impl.KernelNew(5).Kernel.Arenas[0].Slots[0]
	fresh.Arenas[0].Slots = []impl.Slot{{Gen: 1}, root}
	refusedKernel(t, "at another place", fresh)
	fresh.Arenas[0].Slots = []impl.Slot{root, {Live: true, Id: 9, Obj: root.Obj}}
	refusedKernel(t, "two of them", fresh)
	fresh = impl.KernelNew(5).Kernel
	fresh.Arenas[0].Slots, fresh.Arenas[2].Slots = nil, fresh.Arenas[0].Slots
	refusedKernel(t, "in another arena", fresh)
	spoils(t, "it changes places", func(w *town) {
		s := w.k.Arenas[0].Slots
		s[0], s[4] = s[4], s[0]
	})
	for _, kind := range []int64{0, impl.KdSeg, impl.KdSpace, 4, -1} {
		spoils(t, "another kind", func(w *town) { w.obj(w.root).Kind = kind })
	}
	for of := int64(1); of <= 16; of++ {
		spoils(t, "another Of", func(w *town) { w.obj(w.root).Of = of })
		empty := impl.KernelNew(5).Kernel
		empty.Arenas[0].Slots[0].Obj.Of = of
		refusedKernel(t, "another Of, and nothing in it", empty)
	}
	for _, order := range append([]int64{0, 1, 2, 3, 4}, noOrders...) {
		spoils(t, "another order", func(w *town) { w.obj(w.root).Order = order })
		smaller := impl.KernelNew(5).Kernel
		smaller.Arenas[0].Slots[0].Obj.Order = order
		smaller.Arenas[0].Slots[0].Obj.Room = impl.Buddy{Order: order, Free: []impl.Block{{Order: order}}}
		refusedKernel(t, "another order, with a Room of it", smaller)
	}
	for _, at := range append([]int64{1, -1, 32}, wideNumbers...) {
		spoils(t, "another place", func(w *town) { w.obj(w.root).At = at })
		moved := impl.KernelNew(5).Kernel
		moved.Arenas[0].Slots[0].Obj.At = at
		refusedKernel(t, "another place, and nothing in it", moved)
	}
	spoils(t, "an Up", func(w *town) { w.obj(w.root).Up = w.root })
	spoils(t, "another Up", func(w *town) { w.obj(w.root).Up = w.shed })
	for _, up := range []impl.Handle{{By: 1}, {Id: 1}, {Gen: 1}, {By: -1}} {
		spoils(t, "an Up that is none", func(w *town) { w.obj(w.root).Up = up })
	}
	spoils(t, "with a Map", func(w *town) { w.obj(w.root).Maps = []impl.Map{{}} })
	spoils(t, "with a Fast", func(w *town) { w.obj(w.root).Fasts = []impl.Fast{{}} })
	spoils(t, "with both", func(w *town) {
		w.obj(w.root).Maps, w.obj(w.root).Fasts = []impl.Map{{}}, []impl.Fast{{}}
	})
	stays(t, "another Gen and Id", func(w *town) {
		w.k = renamed(w.k, w.root, 4711)
		for _, kid := range w.k.Arenas[0].Slots[0].Obj.Kids {
			w.obj(kid).Up.Gen = 2
		}
		w.k.Arenas[0].Slots[0].Gen = 2
	})
}

func TestWrongOfs(t *testing.T) {
	for _, of := range noLabels {
		spoils(t, "no label", func(w *town) { w.obj(w.plot).Of = of })
		spoils(t, "no label", func(w *town) { w.obj(w.map1).Of = of })
		spoils(t, "no label", func(w *town) { w.obj(w.nest).Of = of })
	}
	for of := range int64(16) {
		ask := spoils
		if flowsByLetters(1, of) {
			ask = stays
		}
		ask(t, "of a segment by 1", func(w *town) { w.obj(w.safe).Of = of })
		ask(t, "of a space by 1", func(w *town) { w.obj(w.map1).Of = of })
		ask = spoils
		if flowsByLetters(3, of) {
			ask = stays
		}
		ask(t, "of a box by 3", func(w *town) { w.obj(w.nest).Of = of })
		if of != 3 {
			spoils(t, "of a box in which there are things by 3", func(w *town) { w.obj(w.barn).Of = of })
		}
	}
}

func TestWrongUps(t *testing.T) {
	for _, what := range []struct {
		name string
		of   func(w *town) impl.Handle
	}{
		{"segment", func(w *town) impl.Handle { return w.well }},
		{"space", func(w *town) impl.Handle { return w.map1 }},
		{"box", func(w *town) impl.Handle { return w.barn }},
	} {
		for name, up := range map[string]func(w *town) impl.Handle{
			"the zero Handle":            func(w *town) impl.Handle { return impl.Handle{} },
			"a name that is none":        func(w *town) impl.Handle { return impl.Handle{By: 0, Id: w.yard.Id, Gen: 1} },
			"a By that is none":          func(w *town) impl.Handle { return impl.Handle{By: 16, Id: w.yard.Id} },
			"a By below all":             func(w *town) impl.Handle { return impl.Handle{By: -1, Id: w.yard.Id} },
			"a segment":                  func(w *town) impl.Handle { return w.safe },
			"a segment of that Of":       func(w *town) impl.Handle { return w.well },
			"a space":                    func(w *town) impl.Handle { return w.map0 },
			"a box of another Of":        func(w *town) impl.Handle { return w.root },
			"a box of another Of, below": func(w *town) impl.Handle { return w.nest },
		} {
			spoils(t, what.name+" in "+name, func(w *town) { w.obj(what.of(w)).Up = up(w) })
		}
		spoils(t, what.name+" in a box of another Of, that has it", func(w *town) {
			h := what.of(w)
			w.obj(h).Up = w.nest
			w.obj(w.nest).Kids = []impl.Handle{h}
			w.obj(h).At, w.obj(h).Order = 5, 0
		})
		spoils(t, what.name+" that is not in the Kids", func(w *town) {
			kids := &w.obj(w.yard).Kids
			for i, kid := range *kids {
				if kid == what.of(w) {
					*kids = append((*kids)[:i], (*kids)[i+1:]...)
					return
				}
			}
		})
	}
	// A space has no pages: of all that is asked but this and that is right still.
	spoils(t, "a space in a box of another Of", func(w *town) {
		w.obj(w.map1).Up = w.root
		w.obj(w.root).Kids = append(w.obj(w.root).Kids, w.map1)
		w.obj(w.yard).Kids = []impl.Handle{w.well, w.barn, w.safe}
	})
	spoils(t, "a space whose Up is another box of that Of", func(w *town) { w.obj(w.map0).Up = w.shed })
	stays(t, "a space in another box of that Of", func(w *town) {
		w.obj(w.map0).Up = w.shed
		w.obj(w.shed).Kids = []impl.Handle{w.map0}
		w.obj(w.root).Kids = []impl.Handle{w.yard, w.plot, w.shed}
	})
	spoils(t, "a space in the Kids of two boxes", func(w *town) { w.obj(w.shed).Kids = []impl.Handle{w.map0} })
	spoils(t, "a space in a segment", func(w *town) {
		w.obj(w.map0).Up = w.plot
		w.obj(w.plot).Kids = []impl.Handle{w.map0}
		w.obj(w.root).Kids = []impl.Handle{w.yard, w.plot, w.shed}
	})
}

func TestWrongBoxes(t *testing.T) {
	for _, order := range append([]int64{0, 1, 3, 4, 5}, noOrders...) {
		spoils(t, "another order", func(w *town) { w.obj(w.shed).Order = order })
		spoils(t, "another order, of Room, too", func(w *town) {
			w.obj(w.shed).Order = order
			w.obj(w.shed).Room = impl.Buddy{Order: order, Free: []impl.Block{{Order: order}}}
		})
		spoils(t, "a Room of another order", func(w *town) {
			w.obj(w.shed).Room = impl.Buddy{Order: order, Free: []impl.Block{{Order: order}}}
		})
		spoils(t, "a Room of another order, with the free pages", func(w *town) { w.obj(w.shed).Room.Order = order })
	}
	for _, free := range [][]impl.Block{
		nil, {{}}, {{Order: 1}}, {{Order: 1}, {At: 2, Order: 1}}, {{At: 4, Order: 2}}, {{Order: 2}, {Order: 2}},
		{{Order: 2}, {At: 3}}, {{At: 2, Order: 1}, {Order: 1}}, {{At: -4, Order: 2}}, {{Order: 3}}, {{Order: -1}},
	} {
		spoils(t, "a Room that is not right, or not all", func(w *town) { w.obj(w.shed).Room.Free = free })
	}
	spoils(t, "a page in a kid and free", func(w *town) { w.obj(w.barn).Room.Free = []impl.Block{{At: 1}, {At: 2, Order: 1}} })
	spoils(t, "a page in no kid and not free", func(w *town) { w.obj(w.barn).Room.Free = []impl.Block{{At: 2}} })
	for _, at := range append([]int64{0, 3, 5, 6, 7, 8, 36, -4}, wideNumbers...) {
		spoils(t, "a segment on other pages", func(w *town) { w.obj(w.loft).At = at })
	}
	for _, at := range append([]int64{0, 4, 8, 13, 14, 28, 32, -12}, wideNumbers...) {
		spoils(t, "a box on other pages", func(w *town) { w.obj(w.shed).At = at })
	}
	spoils(t, "a segment that is not aligned", func(w *town) {
		w.obj(w.barn).Kids = []impl.Handle{w.loft, w.nest}
		w.obj(w.barn).Room.Free = []impl.Block{{At: 3}}
		w.obj(w.loft).At, w.obj(w.loft).Order = 5, 1
		w.obj(w.nest).At = 4
	})
	stays(t, "a box and a segment change places", func(w *town) { w.obj(w.loft).At, w.obj(w.nest).At = 5, 4 })
	stays(t, "free pages change places", func(w *town) {
		w.obj(w.barn).Room.Free = []impl.Block{{At: 1}, {At: 2}}
		w.obj(w.nest).At = 7
	})
	spoils(t, "kids in one block", func(w *town) { w.obj(w.nest).At = 4 })
	for _, kid := range []impl.Handle{{}, {By: 3, Id: 9}, {By: 16}, {By: -1}, {Gen: 3}} {
		spoils(t, "a kid that is none", func(w *town) { w.obj(w.nest).Kids = []impl.Handle{kid} })
	}
	spoils(t, "a kid that is elsewhere", func(w *town) { w.obj(w.nest).Kids = []impl.Handle{w.map1} })
	spoils(t, "the root as a kid", func(w *town) { w.obj(w.nest).Kids = []impl.Handle{w.root} })
	spoils(t, "itself as a kid", func(w *town) { w.obj(w.nest).Kids = []impl.Handle{w.nest} })
	spoils(t, "a space twice", func(w *town) { w.obj(w.root).Kids = append(w.obj(w.root).Kids, w.map0) })
	spoils(t, "a segment twice", func(w *town) { w.obj(w.root).Kids = append(w.obj(w.root).Kids, w.plot) })
	spoils(t, "a box twice", func(w *town) { w.obj(w.root).Kids = append(w.obj(w.root).Kids, w.shed) })
	stays(t, "kids in another order", func(w *town) { w.obj(w.root).Kids = []impl.Handle{w.shed, w.map0, w.plot, w.yard} })
	spoils(t, "with Maps", func(w *town) { w.obj(w.shed).Maps = []impl.Map{{}} })
	spoils(t, "with Fasts", func(w *town) { w.obj(w.shed).Fasts = []impl.Fast{{}} })
	for _, kind := range []int64{0, impl.KdSeg, impl.KdSpace, 4, -1, 1 << 40} {
		spoils(t, "of another kind", func(w *town) { w.obj(w.shed).Kind = kind })
	}
}

func TestWrongSegments(t *testing.T) {
	for _, order := range append([]int64{0, 1, 3, 4, 5}, noOrders...) {
		spoils(t, "another order", func(w *town) { w.obj(w.plot).Order = order })
	}
	spoils(t, "with a Room's order", func(w *town) { w.obj(w.plot).Room.Order = 2 })
	spoils(t, "with free pages", func(w *town) { w.obj(w.plot).Room.Free = []impl.Block{{}} })
	spoils(t, "with a right Room", func(w *town) { w.obj(w.plot).Room = impl.BuddyNew(2).Buddy })
	spoils(t, "with Kids", func(w *town) { w.obj(w.plot).Kids = []impl.Handle{w.map0} })
	spoils(t, "with Maps", func(w *town) { w.obj(w.plot).Maps = []impl.Map{{}} })
	spoils(t, "with Fasts", func(w *town) { w.obj(w.plot).Fasts = []impl.Fast{{}} })
	for _, kind := range []int64{0, impl.KdBox, impl.KdSpace, 4, -1, 1 << 40} {
		spoils(t, "of another kind", func(w *town) { w.obj(w.plot).Kind = kind })
	}
	stays(t, "a segment becomes a box", func(w *town) {
		w.obj(w.plot).Kind = impl.KdBox
		w.obj(w.plot).Room = impl.BuddyNew(2).Buddy
	})
	stays(t, "empty lists are none", func(w *town) {
		o := w.obj(w.plot)
		o.Room.Free, o.Kids, o.Maps, o.Fasts = []impl.Block{}, []impl.Handle{}, []impl.Map{}, []impl.Fast{}
	})
}

func TestWrongSpaces(t *testing.T) {
	for _, n := range append([]int64{1, -1, 5, 31}, wideNumbers...) {
		spoils(t, "with an order", func(w *town) { w.obj(w.map0).Order = n })
		spoils(t, "with pages", func(w *town) { w.obj(w.map0).At = n })
		spoils(t, "with a Room's order", func(w *town) { w.obj(w.map0).Room.Order = n })
	}
	spoils(t, "with free pages", func(w *town) { w.obj(w.map0).Room.Free = []impl.Block{{}} })
	spoils(t, "with Kids", func(w *town) { w.obj(w.map0).Kids = []impl.Handle{w.plot} })
	for _, kind := range []int64{0, impl.KdBox, impl.KdSeg, 4, -1, 1 << 40} {
		spoils(t, "of another kind", func(w *town) { w.obj(w.map0).Kind = kind })
		spoils(t, "of another kind, with Maps", func(w *town) { w.obj(w.map1).Kind = kind })
	}
	for _, maps := range [][]impl.Map{
		{{Va: -1}}, {{Va: 8}}, {{Page: -1}}, {{Page: 32}}, {{Va: 1}, {Va: 1}}, {{Va: 2}, {Va: 1}}, {{Va: 1}, {Va: 2}, {Va: 2}},
		{{Va: 1}, {Va: 2}, {Va: 0}}, {{Va: 0}, {Va: 1, Page: 32}}, {{Va: 0}, {Va: 8}}, {{Va: -1}, {Va: 0}},
	} {
		spoils(t, "Maps", func(w *town) { w.obj(w.map0).Maps = maps })
	}
	for _, n := range wideNumbers {
		spoils(t, "a Va", func(w *town) { w.obj(w.map0).Maps = []impl.Map{{Va: n}} })
		spoils(t, "a Page", func(w *town) { w.obj(w.map0).Maps = []impl.Map{{Page: n}} })
		spoils(t, "a Fast's At", func(w *town) { w.obj(w.map1).Fasts[0].At = n })
	}
	seg := impl.Handle{By: 7, Id: -7, Gen: 99}
	maps := []impl.Map{{Va: 1, Seg: seg, Page: 4}, {Va: 2, Seg: seg, Page: 4}, {Va: 5, Page: 31}}
	fast := func(i int, at int64) impl.Fast {
		return impl.Fast{Va: maps[i].Va, Seg: maps[i].Seg, Page: maps[i].Page, At: at}
	}
	for _, fasts := range [][]impl.Fast{
		{fast(0, -1)}, {fast(0, 32)}, {fast(0, 1), fast(0, 1)}, {fast(0, 1), fast(0, 2)}, {fast(1, 1), fast(0, 1)},
		{fast(0, 1), fast(2, 1), fast(1, 1)}, {{Va: 3, Seg: seg, Page: 4}}, {{Va: 1, Seg: seg, Page: 5}}, {{Va: 1, Page: 4}},
		{{Va: 5, Seg: seg, Page: 31}}, {fast(0, 1), fast(1, 1), fast(2, 32)}, {{Va: 1, Seg: impl.Handle{By: 7, Id: -7, Gen: 98}, Page: 4}},
		{{Va: 0}}, {{Va: -1}}, {{Va: 8}},
	} {
		spoils(t, "Fasts", func(w *town) { w.obj(w.map0).Maps, w.obj(w.map0).Fasts = maps, fasts })
	}
	for _, fasts := range [][]impl.Fast{nil, {fast(0, 0)}, {fast(1, 31)}, {fast(0, 7), fast(1, 7), fast(2, 7)}, {fast(0, 7), fast(2, 0)}} {
		stays(t, "Fasts", func(w *town) { w.obj(w.map0).Maps, w.obj(w.map0).Fasts = maps, fasts })
	}
	spoils(t, "Fasts without Maps", func(w *town) { w.obj(w.map0).Fasts = []impl.Fast{{}} })
	stays(t, "all Vas", func(w *town) {
		for va := range int64(8) {
			w.obj(w.map0).Maps = append(w.obj(w.map0).Maps, impl.Map{Va: va, Seg: w.root, Page: va * 4})
		}
	})
}

// Boxes that are in each other are as they should be, but for the root: one never comes to it.
func TestRingsOfBoxes(t *testing.T) {
	for _, label := range []int64{0, 1, 6, 15} {
		for many := 1; many <= 5; many++ {
			for order := range int64(6) {
				for _, at := range []int64{0, 1, 32, -9} {
					k := impl.KernelNew(90).Kernel
					a := &k.Arenas[label]
					name := func(i int) impl.Handle { return impl.Handle{By: label, Id: int64(40000 + i%many), Gen: 1} }
					for i := range many {
						o := impl.Obj{Kind: impl.KdBox, Of: label, Order: order, At: at, Up: name(i + 1), Room: impl.Buddy{Order: order}, Kids: []impl.Handle{name(i + many - 1)}}
						a.Slots = append(a.Slots, impl.Slot{Gen: 1, Live: true, Id: name(i).Id, Obj: o})
					}
					refusedKernel(t, fmt.Sprintf("a ring of %d", many), k)
				}
			}
		}
	}
	// What hangs on a ring does not come to the root, either.
	spoils(t, "a tail", func(w *town) {
		ring := impl.Handle{By: 15, Id: 7}
		tail := impl.Handle{By: 15, Id: 8}
		w.k.Arenas[15].Slots = []impl.Slot{
			{Live: true, Id: 7, Obj: impl.Obj{Kind: impl.KdBox, Of: 15, Order: 1, Up: ring, Room: impl.Buddy{Order: 1}, Kids: []impl.Handle{ring, tail}}},
			{Live: true, Id: 8, Obj: impl.Obj{Kind: impl.KdSpace, Of: 15, Up: ring}},
		}
	})
}

// Lists far beyond what can be right are refused, and soon.
func TestLongLists(t *testing.T) {
	const many = 200000
	spoils(t, "kids", func(w *town) { w.obj(w.root).Kids = make([]impl.Handle, many) })
	spoils(t, "one kid again and again", func(w *town) {
		for range many {
			w.obj(w.root).Kids = append(w.obj(w.root).Kids, w.map0)
		}
	})
	spoils(t, "maps", func(w *town) { w.obj(w.map0).Maps = make([]impl.Map, many) })
	spoils(t, "fasts", func(w *town) { w.obj(w.map1).Fasts = make([]impl.Fast, many) })
	spoils(t, "slots", func(w *town) { w.k.Arenas[9].Slots = make([]impl.Slot, many) })
	spoils(t, "arenas", func(w *town) { w.k.Arenas = make([]impl.Arena, many) })
	spoils(t, "words", func(w *town) { w.k.Words = make([]int64, many) })
}

// eachMutant hands over every kernel that differs from k in one number, one truth or one list.
func eachMutant(k impl.Kernel, do func(k impl.Kernel)) {
	var walk func(v reflect.Value)
	walk = func(v reflect.Value) {
		switch v.Kind() {
		case reflect.Struct:
			for i := range v.NumField() {
				walk(v.Field(i))
			}
		case reflect.Bool:
			v.SetBool(!v.Bool())
			do(k)
			v.SetBool(!v.Bool())
		case reflect.Int64:
			was := v.Int()
			for _, n := range []int64{was - 1, was + 1, was ^ 2, 0, 2, 16, -1 << 63, 1<<63 - 1} {
				v.SetInt(n)
				do(k)
			}
			v.SetInt(was)
		case reflect.Slice:
			for i := range v.Len() {
				walk(v.Index(i))
			}
			mutateList(v, func() { do(k) })
		}
	}
	walk(reflect.ValueOf(&k).Elem())
}

// mutateList leaves out each item of a list, has it twice, has it change places with the next one, and puts a zero behind all.
func mutateList(v reflect.Value, do func()) {
	was := v.Interface()
	fresh := func() reflect.Value {
		return reflect.AppendSlice(reflect.MakeSlice(v.Type(), 0, v.Len()+1), reflect.ValueOf(was))
	}
	many := v.Len()
	for i := range many {
		v.Set(reflect.AppendSlice(fresh().Slice(0, i), reflect.ValueOf(was).Slice(i+1, many)))
		do()
		v.Set(reflect.Append(fresh(), reflect.ValueOf(was).Index(i)))
		do()
		if i > 0 {
			v.Set(fresh())
			reflect.Swapper(v.Interface())(i-1, i)
			do()
		}
	}
	v.Set(reflect.Append(fresh(), reflect.Zero(v.Type().Elem())))
	do()
	v.Set(reflect.ValueOf(was))
}

func TestKernelRightOfEachMutant(t *testing.T) {
	w := newTown(t)
	before := fmt.Sprintf("%+v", w.k)
	many := map[bool]int{}
	eachMutant(w.k, func(k impl.Kernel) {
		want := kernelRightByWords(k)
		many[want]++
		if impl.KernelRight(k) != want {
			t.Fatalf("right of %+v: got %v, want %v", k, !want, want)
		}
		if out := impl.InfoOf(k, 0, impl.Handle{Gen: impl.MaxGen}); (out.Code == impl.ErrForm) == want {
			t.Fatalf("info in %+v: code %d", k, out.Code)
		}
	})
	same(t, "not changed", fmt.Sprintf("%+v", w.k), before)
	if many[true] < 300 || many[false] < 300 {
		t.Errorf("only %v mutants", many)
	}
}
