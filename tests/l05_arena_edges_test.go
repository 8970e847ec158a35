package tests

import (
	"testing"

	"loop.example/g00740/impl"
)

func TestArenaLimits(t *testing.T) {
	same(t, "MaxSlots", impl.MaxSlots, 6)
	same(t, "MaxGen", impl.MaxGen, 3)
	same(t, "kinds", []int64{impl.KdBox, impl.KdSeg, impl.KdSpace}, []int64{1, 2, 3})
}

func TestKeyOfByHand(t *testing.T) {
	for _, one := range []struct{ seed, label, want int64 }{
		{0, 0, 7},
		{1, 0, 38},
		{0, 1, 984},
		{1, 2, 1992},
		{0, 15, 14662},
		{65535, 0, 65512},  // 2031585 and 7 is 2031592, less 30 times 65536
		{65535, 15, 14631}, // 14655 more is 2046247, less 31 times 65536
		{2113, 0, 65510},   // the last one ahead of the wrap
		{2114, 0, 5},       // 65541
		{65513, 9, 7 + (65513*31+9*977)%65536},
	} {
		same(t, "KeyOf", impl.KeyOf(one.seed, one.label), one.want)
	}
}

func TestKeyOfByTheDocument(t *testing.T) {
	for seed := int64(0); seed <= 65535; seed++ {
		for label := int64(0); label <= 15; label++ {
			want := seed*31 + label*977 + 7
			for want >= 65536 {
				want -= 65536
			}
			if got := impl.KeyOf(seed, label); got != want {
				t.Fatalf("KeyOf(%d, %d): got %d, want %d", seed, label, got, want)
			}
		}
	}
}

func TestKeyOfWrongNumbers(t *testing.T) {
	for _, seed := range noKeys {
		for label := int64(-1); label <= 16; label++ {
			same(t, "seed", impl.KeyOf(seed, label), int64(-1))
		}
	}
	for _, label := range append([]int64{-1, -16, 16, 17, 255}, wideNumbers...) {
		for _, seed := range someKeys {
			same(t, "label", impl.KeyOf(seed, label), int64(-1))
		}
	}
}

// fullArena has MaxSlots Live slots, of the Ids 10, 20 and so on.
func fullArena() impl.Arena {
	a := impl.Arena{Label: 5, Names: impl.Stream{Key: 99, Count: 6}}
	for i := range int64(impl.MaxSlots) {
		a.Slots = append(a.Slots, impl.Slot{Gen: i % impl.MaxGen, Live: true, Id: 10 * (i + 1), Obj: someObj(i)})
	}
	return a
}

func TestPutByHand(t *testing.T) {
	// Permute of the key 0 and 0 is 259, see TestPermuteByHand; of 1 it is told by the words of chapter 4.
	seg := impl.Obj{Kind: impl.KdSeg, Of: 3, Order: 1, At: 4, Up: impl.Handle{By: 3, Id: 9, Gen: 1}}
	one := impl.ArenaPut(impl.Arena{Label: 3}, seg)
	alike(t, "the first one", one, impl.ArenaOut{
		Arena:  impl.Arena{Label: 3, Names: impl.Stream{Count: 1}, Slots: []impl.Slot{{Live: true, Id: 259, Obj: seg}}},
		Handle: impl.Handle{By: 3, Id: 259},
	})
	two := impl.ArenaPut(one.Arena, impl.Obj{})
	id := permuteByWords(0, 1)
	alike(t, "the next one, a zero Obj", two, impl.ArenaOut{
		Arena:  impl.Arena{Label: 3, Names: impl.Stream{Count: 2}, Slots: []impl.Slot{{Live: true, Id: 259, Obj: seg}, {Live: true, Id: id}}},
		Handle: impl.Handle{By: 3, Id: id},
	})
	gone := impl.ArenaDrop(two.Arena, 0)
	alike(t, "the first one goes", gone, impl.ArenaOut{
		Arena: impl.Arena{Label: 3, Names: impl.Stream{Count: 2}, Slots: []impl.Slot{{Gen: 1}, {Live: true, Id: id}}},
	})
	again := impl.ArenaPut(gone.Arena, seg)
	alike(t, "its slot is used again", again.Handle, impl.Handle{By: 3, Id: permuteByWords(0, 2), Gen: 1})
	same(t, "at its place", impl.ArenaFind(again.Arena, again.Handle), int64(0))
	same(t, "not by the old name", impl.ArenaFind(again.Arena, one.Handle), int64(-1))
	same(t, "not by the old Id and the new Gen", impl.ArenaFind(again.Arena, impl.Handle{By: 3, Id: 259, Gen: 1}), int64(-1))
	same(t, "not by the new Id and the old Gen", impl.ArenaFind(again.Arena, impl.Handle{By: 3, Id: again.Handle.Id}), int64(-1))
	same(t, "the other one is where it was", impl.ArenaFind(again.Arena, two.Handle), int64(1))
}

// Which slot is used: the first that is free and not used up, whatever its Gen; else one behind all, of Gen 0.
func TestWhichSlotIsUsed(t *testing.T) {
	live := func(id int64) impl.Slot { return impl.Slot{Live: true, Id: id} }
	free := func(gen int64) impl.Slot { return impl.Slot{Gen: gen} }
	for _, one := range []struct {
		slots []impl.Slot
		place int64
		gen   int64
	}{
		{nil, 0, 0},
		{[]impl.Slot{}, 0, 0},
		{[]impl.Slot{free(0)}, 0, 0},
		{[]impl.Slot{free(2)}, 0, 2},
		{[]impl.Slot{free(3)}, 1, 0},
		{[]impl.Slot{live(1), free(2), free(0)}, 1, 2},
		{[]impl.Slot{free(3), live(1), free(1), free(0)}, 2, 1},
		{[]impl.Slot{live(1), live(2), live(3), live(4), live(5)}, 5, 0},
		{[]impl.Slot{free(3), free(3), free(3), free(3), free(3)}, 5, 0},
		{[]impl.Slot{live(1), live(2), live(3), live(4), live(5), free(2)}, 5, 2},
		{[]impl.Slot{free(3), free(3), free(3), free(3), free(0), free(3)}, 4, 0},
		{[]impl.Slot{live(1), live(2), live(3), live(4), live(5), live(6)}, -1, 0},
		{[]impl.Slot{free(3), free(3), free(3), free(3), free(3), free(3)}, -1, 0},
		{[]impl.Slot{live(1), free(3), live(2), free(3), live(4), free(3)}, -1, 0},
	} {
		a := impl.Arena{Label: 9, Names: impl.Stream{Key: 7, Count: 500}, Slots: one.slots}
		out := impl.ArenaPut(a, someObj(8))
		if one.place < 0 {
			alike(t, "full", out, impl.ArenaOut{Code: impl.ErrFull})
			continue
		}
		alike(t, "handle", out.Handle, impl.Handle{By: 9, Id: permuteByWords(7, 500), Gen: one.gen})
		alike(t, "stream", out.Arena.Names, impl.Stream{Key: 7, Count: 501})
		same(t, "place", impl.ArenaFind(out.Arena, out.Handle), one.place)
		alike(t, "slot", out.Arena.Slots[one.place], impl.Slot{Gen: one.gen, Live: true, Id: out.Handle.Id, Obj: someObj(8)})
	}
}

func TestASlotIsUsedMaxGenTimes(t *testing.T) {
	a := impl.Arena{Label: 15, Names: impl.Stream{Key: 65535, Count: 0}}
	for gen := range int64(impl.MaxGen) {
		out := impl.ArenaPut(a, impl.Obj{Kind: impl.KdSpace})
		alike(t, "the same slot", out.Handle, impl.Handle{By: 15, Id: permuteByWords(65535, gen), Gen: gen})
		same(t, "one slot", len(out.Arena.Slots), 1)
		a = impl.ArenaDrop(out.Arena, 0).Arena
		alike(t, "the next Gen", a.Slots, []impl.Slot{{Gen: gen + 1}})
	}
	out := impl.ArenaPut(a, impl.Obj{Kind: impl.KdSpace})
	alike(t, "another slot", out.Handle, impl.Handle{By: 15, Id: permuteByWords(65535, impl.MaxGen)})
	same(t, "its place", impl.ArenaFind(out.Arena, out.Handle), int64(1))
	alike(t, "the old one", out.Arena.Slots[0], impl.Slot{Gen: impl.MaxGen})
}

func TestPutAtTheEndOfTheStream(t *testing.T) {
	last := impl.Arena{Label: 2, Names: impl.Stream{Key: 11, Count: impl.MaxIds - 1}}
	out := impl.ArenaPut(last, impl.Obj{})
	alike(t, "the last name", out.Handle, impl.Handle{By: 2, Id: permuteByWords(11, 999)})
	alike(t, "no name is left", impl.ArenaPut(out.Arena, impl.Obj{}), impl.ArenaOut{Code: impl.ErrFull})
	same(t, "right", impl.ArenaRight(out.Arena), true)
	same(t, "found", impl.ArenaFind(out.Arena, out.Handle), int64(0))
	same(t, "dropped", impl.ArenaDrop(out.Arena, 0).Code, int64(impl.OK))
	for _, slots := range [][]impl.Slot{nil, {{}}, {{Gen: impl.MaxGen}}, fullArena().Slots} {
		alike(t, "no name is left", impl.ArenaPut(impl.Arena{Names: impl.Stream{Count: impl.MaxIds}, Slots: slots}, impl.Obj{}), impl.ArenaOut{Code: impl.ErrFull})
	}
}

// An Id that something Live has is not given again, of whichever Gen it is; that there is no room is told ahead of it.
func TestPutOfAnIdThatIsThere(t *testing.T) {
	next := permuteByWords(21, 300)
	for gen := range int64(impl.MaxGen) {
		for place := range impl.MaxSlots {
			a := impl.Arena{Label: 1, Names: impl.Stream{Key: 21, Count: 300}, Slots: make([]impl.Slot, impl.MaxSlots)}
			a.Slots[place] = impl.Slot{Gen: gen, Live: true, Id: next}
			alike(t, "there", impl.ArenaPut(a, impl.Obj{}), impl.ArenaOut{Code: impl.ErrThere})
			a.Slots[place].Id = next ^ 1
			same(t, "another Id", impl.ArenaPut(a, impl.Obj{}).Code, int64(impl.OK))
		}
	}
	full := fullArena()
	full.Names = impl.Stream{Key: 21, Count: 300}
	full.Slots[3].Id = next
	alike(t, "full, too", impl.ArenaPut(full, impl.Obj{}), impl.ArenaOut{Code: impl.ErrFull})
	end := impl.Arena{Names: impl.Stream{Key: 21, Count: impl.MaxIds}, Slots: []impl.Slot{{Live: true, Id: permuteByWords(21, impl.MaxIds)}}}
	alike(t, "at the end, too", impl.ArenaPut(end, impl.Obj{}), impl.ArenaOut{Code: impl.ErrFull})
}

// A slot that is not Live has the Id 0, and so may something Live have it.
func TestAnIdOfNought(t *testing.T) {
	key, count := int64(0), impl.Unpermute(0, 0)
	for ; count >= impl.MaxIds; count = impl.Unpermute(key, 0) {
		key++
	}
	a := impl.Arena{Label: 6, Names: impl.Stream{Key: key, Count: count}, Slots: []impl.Slot{{Gen: 1}, {Gen: impl.MaxGen}}}
	out := impl.ArenaPut(a, impl.Obj{Kind: impl.KdBox})
	alike(t, "put", out.Handle, impl.Handle{By: 6, Gen: 1})
	same(t, "right", impl.ArenaRight(out.Arena), true)
	same(t, "found", impl.ArenaFind(out.Arena, out.Handle), int64(0))
	for _, h := range []impl.Handle{{By: 6}, {By: 6, Gen: 2}, {By: 6, Gen: impl.MaxGen}} {
		same(t, "a slot that is not Live is not found", impl.ArenaFind(out.Arena, h), int64(-1))
	}
}

func TestFindByOtherHandles(t *testing.T) {
	a := fullArena()
	a.Slots[1].Id, a.Slots[4].Id = 0, 65535
	for place, one := range a.Slots {
		h := impl.Handle{By: 5, Id: one.Id, Gen: one.Gen}
		same(t, "found", impl.ArenaFind(a, h), int64(place))
		for _, n := range append([]int64{-1, 1, 16, 256}, wideNumbers...) {
			same(t, "another By", impl.ArenaFind(a, impl.Handle{By: 5 + n, Id: one.Id, Gen: one.Gen}), int64(-1))
			same(t, "another Id", impl.ArenaFind(a, impl.Handle{By: 5, Id: one.Id + n, Gen: one.Gen}), int64(-1))
			same(t, "another Gen", impl.ArenaFind(a, impl.Handle{By: 5, Id: one.Id, Gen: one.Gen + n}), int64(-1))
		}
		gone := impl.ArenaDrop(a, int64(place)).Arena
		for other := range a.Slots {
			want := int64(other)
			if other == place {
				want = -1
			}
			same(t, "of one that is dropped", impl.ArenaFind(gone, impl.Handle{By: 5, Id: a.Slots[other].Id, Gen: a.Slots[other].Gen}), want)
		}
	}
	same(t, "in none", impl.ArenaFind(impl.Arena{}, impl.Handle{}), int64(-1))
	same(t, "of a free slot", impl.ArenaFind(impl.Arena{Slots: []impl.Slot{{}}}, impl.Handle{}), int64(-1))
}

func TestDropAtItsEdges(t *testing.T) {
	full := fullArena()
	for _, place := range append([]int64{-1, -6, 6, 7}, wideNumbers...) {
		alike(t, "no such place", impl.ArenaDrop(full, place), impl.ArenaOut{Code: impl.ErrNone})
		alike(t, "in none", impl.ArenaDrop(impl.Arena{}, place), impl.ArenaOut{Code: impl.ErrNone})
	}
	alike(t, "in none", impl.ArenaDrop(impl.Arena{}, 0), impl.ArenaOut{Code: impl.ErrNone})
	for gen := range int64(impl.MaxGen + 1) {
		alike(t, "not Live", impl.ArenaDrop(impl.Arena{Slots: []impl.Slot{{Gen: gen}}}, 0), impl.ArenaOut{Code: impl.ErrNone})
	}
	for place := range int64(impl.MaxSlots) {
		want := fullArena()
		want.Slots[place] = impl.Slot{Gen: place%impl.MaxGen + 1}
		alike(t, "drop", impl.ArenaDrop(full, place), impl.ArenaOut{Arena: want})
	}
}
