package tests

import (
	"fmt"
	"slices"
	"testing"

	"loop.example/g00740/impl"
)

// callers are that many calls, each of another label than the one ahead, and their replies.
func callers(many int) ([]impl.Call, []impl.Reply) {
	l, r := make([]impl.Call, many), make([]impl.Reply, many)
	for i := range many {
		l[i] = impl.Call{Who: int64(i*7) % 16, Word: int64(1 + i%12), X: int64(i)}
		r[i] = impl.Reply{N: int64(i), Handles: []impl.Handle{{Id: int64(i)}, {Gen: 1}}[:i%3]}
	}
	return l, r
}

func TestPurgeAndKeptAtTheirEdges(t *testing.T) {
	t.Parallel()
	for _, many := range []int{0, 1, 2, 16, 59, 60, 61, 399, 400} {
		l, r := callers(many)
		for label := range int64(16) {
			calls, replies := purged(t, l, label), kept(t, l, r, label)
			same(t, "as many", len(replies), len(calls))
			if label == 15 {
				same(t, "all, of the greatest label", len(calls), many)
			}
		}
		for _, label := range noLabels {
			same(t, "no label: calls", len(purged(t, l, label)), 0)
			same(t, "no label: replies", len(kept(t, l, r, label)), 0)
		}
	}
	for _, many := range []int{401, 402, 1000, 100000} {
		l, r := callers(many)
		for _, label := range []int64{-1, 0, 15, 16} {
			same(t, "too many: calls", len(purged(t, l, label)), 0)
			same(t, "too many: replies", len(kept(t, l, r, label)), 0)
			same(t, "too many calls", len(kept(t, l, r[:400], label)), 0)
			same(t, "too many replies", len(kept(t, l[:400], r, label)), 0)
		}
		same(t, "as many as may be", len(kept(t, l[:400], r[:400], 15)), 400)
	}
	for label := int64(-1); label <= 16; label++ {
		same(t, "none", len(purged(t, nil, label)), 0)
		same(t, "the empty list", len(purged(t, []impl.Call{}, label)), 0)
		same(t, "none of both", len(kept(t, nil, nil, label)), 0)
		same(t, "the empty list and none", len(kept(t, []impl.Call{}, nil, label)), 0)
		same(t, "none and the empty list", len(kept(t, nil, []impl.Reply{}, label)), 0)
		same(t, "no calls, one reply", len(kept(t, nil, []impl.Reply{{}}, label)), 0)
		same(t, "one call, no replies", len(kept(t, []impl.Call{{Word: 5}}, nil, label)), 0)
	}
}

// Not as many replies as calls: nothing is kept of them.
func TestRepliesOfOtherCalls(t *testing.T) {
	for _, many := range []int{1, 2, 5, 60, 61, 399, 400} {
		l, r := callers(many)
		for _, other := range []int{0, many - 1, many + 1, many / 2, many * 2, 400, 401} {
			if other == many {
				continue
			}
			more, replies := callers(other)
			for _, label := range []int64{-1, 0, 1, 15, 16} {
				same(t, "other replies", len(kept(t, l, replies, label)), 0)
				same(t, "other calls", len(kept(t, more, r, label)), 0)
			}
		}
		same(t, "as many", len(kept(t, l, r, 15)), many)
	}
}

// Whose Who is no label is heard by nobody; whatever else a call is, it is kept as it is.
func TestPurgeOfCallsThatAreNotRight(t *testing.T) {
	r := []impl.Reply{{N: 1}, {N: 2}, {N: 3}}
	for _, who := range noLabels {
		l := []impl.Call{{Who: 0, Word: 3}, {Who: who, Word: 3}, {Who: 15, Word: 3}}
		for label := int64(-1); label <= 16; label++ {
			purged(t, l, label)
			kept(t, l, r, label)
		}
		alike(t, "calls", purged(t, l, 15), []impl.Call{l[0], l[2]})
		alike(t, "replies", kept(t, l, r, 15), []impl.Reply{r[0], r[2]})
	}
	for _, n := range wideNumbers {
		odd := impl.Call{Who: 2, Word: n, A: impl.Ref{Label: n, N: n}, B: impl.Ref{Label: n, N: n}, X: n, Y: n, Z: n}
		l := []impl.Call{odd, {Who: 1}, odd}
		alike(t, "calls", purged(t, l, 6), []impl.Call{odd, odd})
		told := []impl.Reply{{Code: n, N: n, Handle: impl.Handle{By: n, Id: n, Gen: n}, Handles: []impl.Handle{{Id: n}}}, {}, {Code: -n}}
		alike(t, "replies", kept(t, l, told, 6), []impl.Reply{told[0], told[2]})
	}
	long := []impl.Reply{{Handles: make([]impl.Handle, 401)}}
	same(t, "a list within a list may be long", len(kept(t, []impl.Call{{}}, long, 0)[0].Handles), 401)
}

// What is written into an answer does not come back to what was handed in, nor to another list of the answer; lists that are
// shared in what is handed in, or have more behind them, are neither shared nor written on.
func TestWhatIsKeptIsNewMemory(t *testing.T) {
	handles := []impl.Handle{{Id: 1}, {Id: 2}, {Id: 3}, {Id: 4}}
	l, _ := callers(6)
	r := make([]impl.Reply, 8)
	for i := range r {
		r[i] = impl.Reply{Handles: handles[:i%4]}
	}
	for label := range int64(16) {
		kept(t, l[:5], r[:5], label)
	}
	calls, replies := purged(t, l[:5], 15), kept(t, l[:5], r[:5], 15)
	before := fmt.Sprintf("%+v %+v %+v", l, r, handles)
	calls[0].Who, calls[4].Who = -7, -7
	replies[0].N, replies[2].Handles[1].Id = -7, -7
	same(t, "another list", replies[3].Handles[1].Id, int64(2))
	for i := range replies {
		replies[i].Handles = append(replies[i].Handles, impl.Handle{Id: -8})
	}
	_, _ = append(calls, impl.Call{Who: -8}), append(replies, impl.Reply{N: -8})
	same(t, "handed in, not changed", fmt.Sprintf("%+v %+v %+v", l, r, handles), before)
	same(t, "of two answers", newMemory(impl.Purge(l[:5], 15), calls) && newMemory(impl.Kept(l[:5], r[:5], 15), replies), true)
}

func TestWhatIsSeenIsNewMemory(t *testing.T) {
	w := newTown(t)
	before := copyKernel(w.k)
	live, root := lived(t, w.k), spread(t, w.k, w.root)
	same(t, "of two answers", newMemory(live, lived(t, w.k)) && newMemory(root, spread(t, w.k, w.root)), true)
	live[0].Id, root[0] = -7, -7
	same(t, "handed in, not changed", equal(w.k, before), true)
	same(t, "told again", []any{lived(t, w.k)[0], spread(t, w.k, w.root)[0]}, []any{w.root, int64(1)})
	words := append(slices.Clone(w.k.Words), 5, 6)
	w.k.Words = words[:64]
	kids := append(slices.Clone(w.obj(w.yard).Kids), impl.Handle{Id: 1})
	w.obj(w.yard).Kids = kids[:4]
	looked(t, w.k)
	same(t, "behind the words", words[64:], []int64{5, 6})
	same(t, "behind the kids", kids[4], impl.Handle{Id: 1})
}

func TestSeenByLabelsAtTheirEdges(t *testing.T) {
	w := newTown(t)
	for _, label := range noLabels {
		same(t, "no label", seen(t, w.k, label), "")
	}
	for label := range int64(16) {
		same(t, "a label", len(seen(t, w.k, label)) > 0, true)
	}
	for _, seed := range []int64{0, 1, 65535} {
		k := impl.KernelNew(seed).Kernel
		root := seen(t, k, 0)
		for label := range int64(16) {
			same(t, "nothing but the root", seen(t, k, label), root+bytesByWords(make([]int64, 2*(len(impl.LabelsTo(label))-1))...))
		}
	}
}

// Counts and words at their edges, and a text of more than MaxBytes bytes: it is told as a whole.
func TestSeenOfGreatNumbers(t *testing.T) {
	w := newTown(t)
	for l := range w.k.Arenas {
		w.k.Arenas[l].Names.Count = []int64{0, 63, 64, 1000}[l%4]
	}
	for i := range w.k.Words {
		w.k.Words[i] = []int64{0, 63, 64, 8191, 8192, 65535}[i%6]
	}
	looked(t, w.k)
	out := impl.KernelNew(3)
	k := out.Kernel
	for who := int64(1); who <= 5; who++ {
		var box impl.Handle
		k, box = made(t, k, 0, out.Handle, impl.KdBox, who, 0)
		for range impl.MaxSlots {
			k, _ = made(t, k, who, box, impl.KdSpace, who, 0)
		}
	}
	for _, h := range spacesOf(k) {
		o := &slotOf(k, h).Obj
		for va := range int64(8) {
			seg := impl.Handle{By: wideNumbers[va], Id: wideNumbers[9-va], Gen: wideNumbers[va]}
			o.Maps = append(o.Maps, impl.Map{Va: va, Seg: seg, Page: 31})
			o.Fasts = append(o.Fasts, impl.Fast{Va: va, Seg: seg, Page: 31, At: 31})
		}
	}
	same(t, "right", impl.KernelRight(k), true)
	same(t, "a long text", len(seen(t, k, 15)) > impl.MaxBytes, true)
	looked(t, k)
}

// The numbers come back from the bytes one by one, and nothing is behind them.
func TestSeenIsNumbers(t *testing.T) {
	w := fastHall(t)
	text := seen(t, w.k, 15)
	var numbers []int64
	for at := int64(0); at < int64(len(text)); {
		one := impl.GetNum(text, at)
		if one.Code != impl.OK {
			t.Fatalf("no number at %d: code %d", at, one.Code)
		}
		numbers, at = append(numbers, one.N), one.At
	}
	same(t, "put again", bytesByWords(numbers...), text)
	same(t, "those of arena 0", numbers[:12], []int64{3, 3, 0, 1, w.root.Id, 1, 0, 5, 0, 0, 0, 0})
	same(t, "the empty arenas behind all", numbers[len(numbers)-28:], make([]int64, 28))
}

func TestSpreadOfWhatIsNoBox(t *testing.T) {
	w := newTown(t)
	for _, h := range liveOf(w.k) {
		is := impl.Find(w.k, h).Kind == impl.KdBox
		same(t, "a box", len(spread(t, w.k, h)) > 0, is)
		for _, no := range noNames(h) {
			same(t, "near to one", len(spread(t, w.k, no)), 0)
		}
	}
	gone := impl.Drop(w.k, 1, w.barn).Kernel
	for _, h := range []impl.Handle{w.barn, w.nest, w.loft} {
		same(t, "gone", len(spread(t, gone, h)), 0)
	}
	again, barn := made(t, gone, 1, w.yard, impl.KdBox, 3, 2)
	same(t, "gone, and one in its slot", []int{len(spread(t, again, w.barn)), len(spread(t, again, barn))}, []int{0, 4})
	same(t, "it is told what is no more", slices.Contains(lived(t, again), w.barn), false)
}

// The root may have any name, also the zero Handle; some other box may have that, too.
func TestSeenOfTheZeroHandle(t *testing.T) {
	out := impl.KernelNew(8)
	k := renamed(out.Kernel, out.Handle, 0)
	k, box := made(t, k, 0, impl.Handle{}, impl.KdBox, 0, 4)
	k, _ = made(t, k, 0, box, impl.KdSeg, 2, 0)
	looked(t, k)
	same(t, "the root", spread(t, k, impl.Handle{}), append(times(16, 1), make([]int64, 16)...))
	k, h := made(t, out.Kernel, 0, out.Handle, impl.KdBox, 0, 5)
	k = renamed(k, h, 0)
	looked(t, k)
	same(t, "a box in the root", spread(t, k, impl.Handle{}), make([]int64, 32))
	same(t, "the root", spread(t, k, out.Handle), times(32, 1))
}

// Of each kernel that differs from a right one in one thing all is told just if it is right.
func TestSeenOfEachMutant(t *testing.T) {
	t.Parallel()
	w := newTown(t)
	before := copyKernel(w.k)
	many := map[bool]int{}
	eachMutant(w.k, func(k impl.Kernel) {
		many[kernelRightByWords(k)]++
		for _, label := range []int64{0, 3, 15} {
			if got := impl.SeenBy(k, label); got != seenByWords(k, label) {
				t.Fatalf("seen by %d of %+v: %q", label, k, got)
			}
		}
		if got := impl.LiveOf(k); !slices.Equal(got, liveByWords(k)) {
			t.Fatalf("live of %+v: %v", k, got)
		}
		for _, h := range []impl.Handle{w.root, w.yard, w.barn} {
			if got := impl.Spread(k, h); !slices.Equal(got, spreadByWords(k, h)) {
				t.Fatalf("spread of %v in %+v: %v", h, k, got)
			}
		}
	})
	same(t, "as it was", equal(w.k, before), true)
	if many[true] < 300 || many[false] < 300 {
		t.Errorf("only %v mutants", many)
	}
}

// Whatever the numbers are, each call answers.
func TestWildLooks(t *testing.T) {
	t.Parallel()
	w := newTown(t)
	d := dice(160481183)
	wild := func() int64 {
		return append([]int64{0, 1, -1, 3, 15, 16}, wideNumbers...)[d.draw(16)]
	}
	for range 2000 {
		l, r := make([]impl.Call, d.draw(6)), make([]impl.Reply, d.draw(6))
		for i := range l {
			l[i] = impl.Call{Who: wild(), Word: wild(), X: wild()}
		}
		for i := range r {
			r[i] = impl.Reply{N: wild(), Handles: make([]impl.Handle, d.draw(4))}
		}
		label := wild()
		purged(t, l, label)
		kept(t, l, r, label)
		spread(t, w.k, impl.Handle{By: wild(), Id: wild(), Gen: wild()})
		if t.Failed() {
			t.FailNow()
		}
	}
	for range 300 {
		k := copyKernel(w.k)
		for range 1 + d.draw(3) {
			if a := &k.Arenas[d.draw(4)]; len(a.Slots) > 0 {
				o := &a.Slots[d.draw(len(a.Slots))].Obj
				places := []*int64{&o.Kind, &o.Of, &o.Order, &o.At, &o.Up.By, &o.Up.Id, &o.Up.Gen, &o.Room.Order}
				*places[d.draw(len(places))] = wild()
			}
		}
		looked(t, k)
		if t.Failed() {
			t.FailNow()
		}
	}
}
