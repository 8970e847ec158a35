package tests

import (
	"fmt"
	"testing"

	"loop.example/g00740/impl"
)

// refused holds all calls of an arena that is not right against what they must answer.
func refused(t *testing.T, what string, a impl.Arena) {
	t.Helper()
	before := fmt.Sprintf("%+v", a)
	same(t, what+": right by the document's words", arenaRightByWords(a), false)
	same(t, what+": right", impl.ArenaRight(a), false)
	alike(t, what+": put", impl.ArenaPut(a, someObj(3)), impl.ArenaOut{Code: impl.ErrForm})
	for place := int64(-1); place <= 7; place++ {
		alike(t, what+": drop", impl.ArenaDrop(a, place), impl.ArenaOut{Code: impl.ErrForm})
	}
	same(t, what+": find", impl.ArenaFind(a, impl.Handle{By: a.Label}), int64(-1))
	for _, one := range a.Slots {
		same(t, what+": find", impl.ArenaFind(a, impl.Handle{By: a.Label, Id: one.Id, Gen: one.Gen}), int64(-1))
	}
	same(t, what+": not changed", fmt.Sprintf("%+v", a), before)
}

// spoiled is an arena with all there is, in which one thing is made wrong.
func spoiled(how func(a *impl.Arena)) impl.Arena {
	a := fullArena()
	a.Slots[2] = impl.Slot{Gen: 1}
	a.Slots[4] = impl.Slot{Gen: impl.MaxGen}
	how(&a)
	return a
}

func TestSpoiledIsRightUnspoiled(t *testing.T) {
	same(t, "right", impl.ArenaRight(spoiled(func(*impl.Arena) {})), true)
	same(t, "empty", impl.ArenaRight(impl.Arena{}), true)
	same(t, "all edges", impl.ArenaRight(impl.Arena{Label: 15, Names: impl.Stream{Key: 65535, Count: 1000}, Slots: []impl.Slot{
		{Live: true, Id: 65535}, {Gen: 2, Live: true}, {}, {Gen: 3}, {Gen: 2, Live: true, Id: 65534}, {Gen: 3},
	}}), true)
}

func TestWrongLabelsAndStreams(t *testing.T) {
	for _, n := range append([]int64{-1, 16, 17}, wideNumbers...) {
		refused(t, "label", spoiled(func(a *impl.Arena) { a.Label = n }))
		refused(t, "label of an empty one", impl.Arena{Label: n})
	}
	for _, n := range noKeys {
		refused(t, "key", spoiled(func(a *impl.Arena) { a.Names.Key = n }))
		refused(t, "key, and at the end", impl.Arena{Names: impl.Stream{Key: n, Count: impl.MaxIds}})
	}
	for _, n := range append([]int64{-1, 1001, 1002}, wideNumbers...) {
		refused(t, "count", spoiled(func(a *impl.Arena) { a.Names.Count = n }))
	}
}

func TestTooManySlots(t *testing.T) {
	for _, many := range []int{7, 8, 100, impl.MaxList, impl.MaxList + 1, 5000} {
		refused(t, "free slots", impl.Arena{Slots: make([]impl.Slot, many)})
		a := fullArena()
		for len(a.Slots) < many {
			a.Slots = append(a.Slots, impl.Slot{Gen: impl.MaxGen})
		}
		refused(t, "slots that are used up", a)
	}
	a := fullArena()
	a.Slots = append(a.Slots, impl.Slot{Live: true, Id: 70})
	refused(t, "Live slots", a)
}

func TestWrongSlots(t *testing.T) {
	for place := range impl.MaxSlots {
		for _, n := range append([]int64{-1, -2, 4, 5}, wideNumbers...) {
			refused(t, "Gen", spoiled(func(a *impl.Arena) { a.Slots[place].Gen = n }))
		}
		for _, n := range append([]int64{-1, 65536}, wideNumbers...) {
			refused(t, "Id", spoiled(func(a *impl.Arena) { a.Slots[place].Id = n }))
		}
		refused(t, "Live, and used up", spoiled(func(a *impl.Arena) {
			a.Slots[place] = impl.Slot{Gen: impl.MaxGen, Live: true, Id: 9}
		}))
		for _, id := range []int64{1, 10, 65535} {
			for gen := range int64(impl.MaxGen + 1) {
				refused(t, "not Live, with an Id", spoiled(func(a *impl.Arena) {
					a.Slots[place] = impl.Slot{Gen: gen, Id: id}
				}))
			}
		}
		for _, o := range oneNumberObjs() {
			refused(t, "not Live, with an Obj", spoiled(func(a *impl.Arena) { a.Slots[place] = impl.Slot{Obj: o} }))
			refused(t, "used up, with an Obj", spoiled(func(a *impl.Arena) { a.Slots[place] = impl.Slot{Gen: impl.MaxGen, Obj: o} }))
			right := spoiled(func(a *impl.Arena) { a.Slots[place] = impl.Slot{Live: true, Id: 9, Obj: o} })
			same(t, "of a Live one it is not asked", impl.ArenaRight(right), true)
		}
	}
}

// An Id is had once, whatever the Gens are.
func TestIdsTwice(t *testing.T) {
	for first := range impl.MaxSlots {
		for second := range first {
			for gens := range int64(impl.MaxGen * impl.MaxGen) {
				for _, id := range []int64{0, 1, 65535} {
					a := impl.Arena{Slots: make([]impl.Slot, impl.MaxSlots)}
					a.Slots[first] = impl.Slot{Gen: gens / impl.MaxGen, Live: true, Id: id}
					a.Slots[second] = impl.Slot{Gen: gens % impl.MaxGen, Live: true, Id: id}
					refused(t, "Id twice", a)
					a.Slots[second].Id = id ^ 2
					same(t, "two Ids", impl.ArenaRight(a), true)
				}
			}
		}
	}
}

func TestEmptyListsAreNone(t *testing.T) {
	a := impl.Arena{Slots: []impl.Slot{{Obj: emptyLists()}, {Gen: impl.MaxGen, Obj: emptyLists()}}}
	same(t, "right", impl.ArenaRight(a), true)
	out := impl.ArenaPut(a, emptyLists())
	alike(t, "put", out, putByWords(a, impl.Obj{}))
	alike(t, "drop", impl.ArenaDrop(out.Arena, 0).Arena.Slots, []impl.Slot{{Gen: 1}, {Gen: impl.MaxGen}})
	same(t, "no slots", impl.ArenaRight(impl.Arena{Slots: []impl.Slot{}}), true)
}

// Whatever an Obj is, it is kept as it was: what stands in it is not asked.
func TestEachObjIsKept(t *testing.T) {
	for _, o := range append(eachObj(), oneNumberObjs()...) {
		before := fmt.Sprintf("%+v", o)
		out := impl.ArenaPut(impl.Arena{Label: 4}, o)
		same(t, "code", out.Code, int64(impl.OK))
		same(t, "kept", fmt.Sprintf("%+v", out.Arena.Slots[0].Obj), before)
		same(t, "new memory", newMemory(out, o), true)
		more := impl.ArenaPut(out.Arena, o)
		same(t, "kept when another one is put", fmt.Sprintf("%+v", more.Arena.Slots[0].Obj), before)
		same(t, "new memory", newMemory(more, out, o), true)
		less := impl.ArenaDrop(more.Arena, 1)
		same(t, "kept when another one is dropped", fmt.Sprintf("%+v", less.Arena.Slots[0].Obj), before)
		same(t, "new memory", newMemory(less, more), true)
		same(t, "dropped", fmt.Sprintf("%+v", impl.ArenaDrop(less.Arena, 0).Arena.Slots), "[{Gen:1 Live:false Id:0 Obj:"+fmt.Sprintf("%+v", impl.Obj{})+"} {Gen:1 Live:false Id:0 Obj:"+fmt.Sprintf("%+v", impl.Obj{})+"}]")
	}
}

// Lists that are shared in what is handed in are not shared in the answer, and nothing written there comes back.
func TestSharedListsComeApart(t *testing.T) {
	o := someObj(30)
	a := fullArena()
	for i := range a.Slots {
		a.Slots[i].Obj = o
	}
	a.Slots[0] = impl.Slot{}
	before := fmt.Sprintf("%+v", a)
	for _, out := range []impl.ArenaOut{impl.ArenaPut(a, o), impl.ArenaDrop(a, 1), impl.ArenaDrop(a, 5)} {
		same(t, "code", out.Code, int64(impl.OK))
		same(t, "new memory", newMemory(out, a, o), true)
		for i := range out.Arena.Slots {
			for j := range out.Arena.Slots[i].Obj.Kids {
				out.Arena.Slots[i].Obj.Kids[j].Id = -7
				out.Arena.Slots[i].Obj.Room.Free[j].At = -7
				out.Arena.Slots[i].Obj.Fasts[j].Page = -7
				out.Arena.Slots[i].Obj.Maps[0].Va = -7
			}
			out.Arena.Slots[i].Id = -7
		}
		same(t, "handed in, not changed", fmt.Sprintf("%+v", a), before)
		alike(t, "handed in, not changed", o, someObj(30))
	}
}

// What stands behind a list, in its capacity, belongs to whoever handed it in.
func TestCapacitiesAreNotUsed(t *testing.T) {
	slots := fullArena().Slots
	a := impl.Arena{Slots: slots[:2]}
	o := someObj(5)
	o.Kids = o.Kids[:1]
	out := impl.ArenaPut(a, o)
	same(t, "code", out.Code, int64(impl.OK))
	alike(t, "behind the list", slots, fullArena().Slots)
	same(t, "new memory", newMemory(out, slots, o), true)
	alike(t, "not on a capacity", out, impl.ArenaPut(impl.Arena{Slots: fullArena().Slots[:2:2]}, o))
}
