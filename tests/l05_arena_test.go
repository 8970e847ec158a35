package tests

import (
	"fmt"
	"math"
	"testing"

	"loop.example/g00740/impl"
)

// wideNumbers are far beyond all limits; some of them are small again where sums and products wrap.
var wideNumbers = []int64{math.MinInt64, math.MinInt64 + 1, -1 << 32, -65536, 65537, 1 << 32, 1<<32 + 1, 1 << 60, math.MaxInt64 - 1, math.MaxInt64}

// someObj is a thing of which each number and each list is another one for another n.
func someObj(n int64) impl.Obj {
	h := impl.Handle{By: n, Id: n + 1, Gen: n + 2}
	return impl.Obj{
		Kind:  n%5 - 1, // of the three kinds, and of none
		Of:    n + 3,
		Order: n + 4,
		At:    n + 5,
		Up:    impl.Handle{By: n + 6, Id: n + 7, Gen: n + 8},
		Room:  impl.Buddy{Order: n + 9, Free: []impl.Block{{At: n + 10, Order: n + 11}, {At: n + 12, Order: n + 13}}},
		Kids:  []impl.Handle{h, {By: n + 14, Id: n + 15, Gen: n + 16}},
		Maps:  []impl.Map{{Va: n + 17, Seg: h, Page: n + 18}},
		Fasts: []impl.Fast{{Va: n + 19, Seg: h, Page: n + 20, At: n + 21}, {Va: n + 22}},
	}
}

// eachObj are things with each set of their parts, of each kind and of none.
func eachObj() []impl.Obj {
	var out []impl.Obj
	for parts := range 64 {
		for _, kind := range []int64{0, impl.KdBox, impl.KdSeg, impl.KdSpace, 4, -1, math.MaxInt64, math.MinInt64} {
			o := someObj(int64(100 + parts))
			o.Kind = kind
			if parts&1 == 0 {
				o.Of, o.Order, o.At, o.Up = 0, 0, 0, impl.Handle{}
			}
			if parts&2 == 0 {
				o.Room.Order = 0
			}
			if parts&4 == 0 {
				o.Room.Free = nil
			}
			if parts&8 == 0 {
				o.Kids = nil
			}
			if parts&16 == 0 {
				o.Maps = []impl.Map{}
			}
			if parts&32 == 0 {
				o.Fasts = nil
			}
			out = append(out, o)
		}
	}
	return out
}

// oneNumberObjs are each the zero Obj but for one number, or one list.
func oneNumberObjs() []impl.Obj {
	out := []impl.Obj{
		{Kind: impl.KdBox}, {Kind: impl.KdSeg}, {Kind: impl.KdSpace},
		{Room: impl.Buddy{Free: []impl.Block{{}}}}, {Room: impl.Buddy{Free: []impl.Block{{At: 1}}}},
		{Kids: []impl.Handle{{}}}, {Maps: []impl.Map{{}}}, {Fasts: []impl.Fast{{}}},
	}
	for _, n := range []int64{1, -1, math.MinInt64} {
		out = append(out, impl.Obj{Kind: n}, impl.Obj{Of: n}, impl.Obj{Order: n}, impl.Obj{At: n},
			impl.Obj{Up: impl.Handle{By: n}}, impl.Obj{Up: impl.Handle{Id: n}}, impl.Obj{Up: impl.Handle{Gen: n}},
			impl.Obj{Room: impl.Buddy{Order: n}})
	}
	return out
}

// emptyLists is the zero Obj: an empty list and none are the same.
func emptyLists() impl.Obj {
	return impl.Obj{Room: impl.Buddy{Free: []impl.Block{}}, Kids: []impl.Handle{}, Maps: []impl.Map{}, Fasts: []impl.Fast{}}
}

// objZero is told by what prints: no list is looked at by itself.
func objZero(o impl.Obj) bool {
	return fmt.Sprintf("%+v", o) == fmt.Sprintf("%+v", impl.Obj{})
}

// arenaRightByWords follows the document's sentence, each slot held against each other one.
func arenaRightByWords(a impl.Arena) bool {
	right := a.Label >= 0 && a.Label <= 15 && a.Names.Key >= 0 && a.Names.Key <= 65535 && a.Names.Count >= 0 && a.Names.Count <= 1000 && len(a.Slots) <= 6
	for i, one := range a.Slots {
		right = right && one.Gen >= 0 && one.Gen <= 3 && one.Id >= 0 && one.Id <= 65535
		if !one.Live {
			right = right && one.Id == 0 && objZero(one.Obj)
			continue
		}
		right = right && one.Gen < 3
		for j, other := range a.Slots {
			right = right && (i == j || !other.Live || other.Id != one.Id)
		}
	}
	return right
}

// copyArena takes only the numbers and lists that print, by hand.
func copyArena(a impl.Arena) impl.Arena {
	out := impl.Arena{Label: a.Label, Names: a.Names}
	for _, one := range a.Slots {
		o := one.Obj
		o.Room.Free = append([]impl.Block{}, o.Room.Free...)
		o.Kids = append([]impl.Handle{}, o.Kids...)
		o.Maps = append([]impl.Map{}, o.Maps...)
		o.Fasts = append([]impl.Fast{}, o.Fasts...)
		one.Obj = o
		out.Slots = append(out.Slots, one)
	}
	return out
}

func putByWords(a impl.Arena, o impl.Obj) impl.ArenaOut {
	if !arenaRightByWords(a) {
		return impl.ArenaOut{Code: impl.ErrForm}
	}
	place := -1
	for i := len(a.Slots) - 1; i >= 0; i-- {
		if !a.Slots[i].Live && a.Slots[i].Gen < 3 {
			place = i
		}
	}
	if place < 0 && len(a.Slots) == 6 || a.Names.Count == 1000 {
		return impl.ArenaOut{Code: impl.ErrFull}
	}
	id := permuteByWords(a.Names.Key, a.Names.Count)
	for _, one := range a.Slots {
		if one.Live && one.Id == id {
			return impl.ArenaOut{Code: impl.ErrThere}
		}
	}
	out := copyArena(a)
	if place < 0 {
		place = len(out.Slots)
		out.Slots = append(out.Slots, impl.Slot{})
	}
	out.Slots[place].Live, out.Slots[place].Id, out.Slots[place].Obj = true, id, o
	out.Names.Count++
	return impl.ArenaOut{Arena: out, Handle: impl.Handle{By: a.Label, Id: id, Gen: out.Slots[place].Gen}}
}

func findByWords(a impl.Arena, h impl.Handle) int64 {
	if !arenaRightByWords(a) || h.By != a.Label {
		return -1
	}
	for i, one := range a.Slots {
		if one.Live && one.Id == h.Id && one.Gen == h.Gen {
			return int64(i)
		}
	}
	return -1
}

func dropByWords(a impl.Arena, place int64) impl.ArenaOut {
	if !arenaRightByWords(a) {
		return impl.ArenaOut{Code: impl.ErrForm}
	}
	if place < 0 || place >= int64(len(a.Slots)) || !a.Slots[place].Live {
		return impl.ArenaOut{Code: impl.ErrNone}
	}
	out := copyArena(a)
	out.Slots[place] = impl.Slot{Gen: out.Slots[place].Gen + 1}
	return impl.ArenaOut{Arena: out}
}

// checkArena holds all calls against the document's words, of one arena, right or not.
func checkArena(t *testing.T, a impl.Arena) {
	t.Helper()
	before := fmt.Sprintf("%+v", a)
	alike(t, "right of "+before, impl.ArenaRight(a), arenaRightByWords(a))
	o := someObj(int64(len(a.Slots)) + 41)
	put := impl.ArenaPut(a, o)
	alike(t, "put into "+before, put, putByWords(a, o))
	same(t, "put: new memory", newMemory(put, a, o), true)
	for place := int64(-1); place <= int64(len(a.Slots)); place++ {
		drop := impl.ArenaDrop(a, place)
		alike(t, "drop from "+before, drop, dropByWords(a, place))
		same(t, "drop: new memory", newMemory(drop, a), true)
	}
	for _, one := range a.Slots {
		for gen := int64(-1); gen <= impl.MaxGen; gen++ {
			for _, by := range []int64{a.Label, a.Label ^ 1, a.Label + 16, -1} {
				h := impl.Handle{By: by, Id: one.Id, Gen: gen}
				alike(t, "find in "+before, impl.ArenaFind(a, h), findByWords(a, h))
			}
		}
	}
	same(t, "handed in, not changed", fmt.Sprintf("%+v", a), before)
	alike(t, "handed in, not changed", o, someObj(int64(len(a.Slots))+41))
}

// drawnArena is right as a rule, and wrong in one number now and then.
func drawnArena(d *dice) impl.Arena {
	a := impl.Arena{Label: int64(d.draw(16)), Names: impl.Stream{Key: int64(d.draw(65536)), Count: int64(d.draw(1001))}}
	if d.draw(8) == 0 {
		a.Names.Count = int64(1000 - d.draw(2))
	}
	for i := range d.draw(impl.MaxSlots + 1) {
		one := impl.Slot{Gen: int64(d.draw(impl.MaxGen + 1))}
		if one.Gen < impl.MaxGen && d.draw(3) > 0 {
			one.Live = true
			one.Id = int64(i * 9000)
			one.Obj = someObj(int64(d.draw(1000)))
			if d.draw(6) == 0 {
				one.Id = permuteByWords(a.Names.Key, a.Names.Count)
			}
			if d.draw(6) == 0 {
				one.Id = int64(65535 - i)
			}
		}
		a.Slots = append(a.Slots, one)
	}
	if d.draw(4) == 0 {
		spoil(d, &a)
	}
	return a
}

func spoil(d *dice, a *impl.Arena) {
	wide := wideNumbers[d.draw(len(wideNumbers))]
	if len(a.Slots) == 0 || d.draw(4) == 0 {
		switch d.draw(4) {
		case 0:
			a.Label = []int64{-1, 16, wide}[d.draw(3)]
		case 1:
			a.Names.Key = []int64{-1, 65536, wide}[d.draw(3)]
		case 2:
			a.Names.Count = []int64{-1, 1001, wide}[d.draw(3)]
		case 3:
			a.Slots = append(a.Slots, make([]impl.Slot, 7-len(a.Slots))...)
		}
		return
	}
	one := &a.Slots[d.draw(len(a.Slots))]
	switch d.draw(5) {
	case 0:
		one.Gen = []int64{-1, 3, 4, wide}[d.draw(4)]
	case 1:
		one.Id = []int64{-1, 65536, wide}[d.draw(3)]
	case 2:
		one.Id = a.Slots[d.draw(len(a.Slots))].Id
	case 3:
		one.Live = !one.Live
	case 4:
		all := oneNumberObjs()
		one.Obj = all[d.draw(len(all))]
	}
}

func TestArenasByTheDocument(t *testing.T) {
	d := dice(88172645463325252)
	codes := map[int64]int{}
	for range 3000 {
		a := drawnArena(&d)
		checkArena(t, a)
		codes[impl.ArenaPut(a, impl.Obj{}).Code]++
		if t.Failed() {
			t.FailNow()
		}
	}
	for _, code := range []int64{impl.OK, impl.ErrForm, impl.ErrFull, impl.ErrThere} {
		if codes[code] < 20 {
			t.Errorf("code %d: only %d times", code, codes[code])
		}
	}
}

// Promise 6: through whole lives of arenas, of each name that was ever told it is asked whether it is found.
func TestPutIsFoundAndDroppedIsNot(t *testing.T) {
	d := dice(2463534242)
	for round := range 300 {
		a := impl.Arena{Label: int64(round % 16), Names: impl.Stream{Key: int64(d.draw(65536)), Count: int64(d.draw(900))}}
		at := map[impl.Handle]int64{} // -1: it was dropped
		puts := 0
		for step := 0; puts < impl.MaxSlots*impl.MaxGen; step++ {
			if step == 2000 {
				t.Fatal("slots are not used again")
			}
			before := a
			if d.draw(2) == 0 {
				o := someObj(int64(step))
				out := impl.ArenaPut(a, o)
				alike(t, "put", out, putByWords(a, o))
				if out.Code == impl.OK {
					a, puts = out.Arena, puts+1
					if _, was := at[out.Handle]; was {
						t.Fatalf("%+v is told twice", out.Handle)
					}
					at[out.Handle] = impl.ArenaFind(a, out.Handle)
					if at[out.Handle] < 0 {
						t.Fatalf("%+v was put, and is not found", out.Handle)
					}
					alike(t, "what was put", a.Slots[at[out.Handle]].Obj, o)
				}
			} else {
				place := int64(d.draw(impl.MaxSlots))
				out := impl.ArenaDrop(a, place)
				alike(t, "drop", out, dropByWords(a, place))
				if out.Code == impl.OK {
					a = out.Arena
					for h, where := range at {
						if where == place {
							at[h] = -1
						}
					}
				}
			}
			for h, where := range at {
				same(t, "found", impl.ArenaFind(a, h), where)
			}
			same(t, "right", impl.ArenaRight(a), true)
			same(t, "right still", impl.ArenaRight(before), true)
			if t.Failed() {
				t.FailNow()
			}
		}
		same(t, "names", len(at), impl.MaxSlots*impl.MaxGen)
		useUp(t, a, at)
	}
}

// useUp drops what is left of an arena each of whose slots was used as often as can be: nothing can be put there any more.
func useUp(t *testing.T, a impl.Arena, at map[impl.Handle]int64) {
	t.Helper()
	for place := range int64(impl.MaxSlots) {
		alike(t, "no slot is left", impl.ArenaPut(a, someObj(1)), impl.ArenaOut{Code: impl.ErrFull})
		if a.Slots[place].Live {
			a = impl.ArenaDrop(a, place).Arena
		}
		alike(t, "used up", a.Slots[place], impl.Slot{Gen: impl.MaxGen})
		alike(t, "gone", impl.ArenaDrop(a, place), impl.ArenaOut{Code: impl.ErrNone})
	}
	alike(t, "all used up", impl.ArenaPut(a, someObj(1)), impl.ArenaOut{Code: impl.ErrFull})
	same(t, "right", impl.ArenaRight(a), true)
	for h := range at {
		same(t, "found no more", impl.ArenaFind(a, h), int64(-1))
	}
}
