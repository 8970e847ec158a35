package tests

import (
	"testing"

	"loop.example/g00740/impl"
)

// stale asks for the Vas of a space that are fast, and whose segment is gone.
func stale(t *testing.T, what string, k impl.Kernel, s impl.Handle, want ...int64) {
	t.Helper()
	got := impl.Stale(k, s)
	alike(t, what, got, want)
	alike(t, what+": by the document's words", got, staleByWords(k, s))
	same(t, what+": new memory", newMemory(got, k), true)
}

// nothingThere asks that a Load and a Store tell nothing but that there is none.
func nothingThere(t *testing.T, what string, k impl.Kernel, who int64, s impl.Handle, va int64) {
	t.Helper()
	for i := range int64(2) {
		faulted(t, what+": load", loaded(t, k, who, s, va, i), impl.ErrNone)
		faulted(t, what+": store", stored(t, k, who, s, va, i, 5), impl.ErrNone)
	}
}

// lookAndStore are the two ways to come to what stands at a Va.
func lookAndStore(t *testing.T, s impl.Handle, who int64) map[string]func(k impl.Kernel, va int64, i int64) impl.KernOut {
	return map[string]func(k impl.Kernel, va int64, i int64) impl.KernOut{
		"load": func(k impl.Kernel, va int64, i int64) impl.KernOut {
			t.Helper()
			return loaded(t, k, who, s, va, i)
		},
		"store": func(k impl.Kernel, va int64, i int64) impl.KernOut {
			t.Helper()
			return stored(t, k, who, s, va, i, 4321)
		},
	}
}

// Promise 10: when the segment is gone nothing is there. With a Fast the first one to look, or to store, takes it away.
func TestASegmentThatIsGone(t *testing.T) {
	w := fastHall(t) // low stands at 0 and 7, mid at 3, wide at 4
	stale(t, "nothing is gone", w.k, w.deck)
	k := impl.Drop(w.k, 1, w.low).Kernel
	fasts(t, "a drop leaves the Fasts", k, w.deck, w.four()...)
	stale(t, "gone", k, w.deck, 0, 7)
	stale(t, "the other space has none", k, w.desk)
	for what, come := range lookAndStore(t, w.deck, 1) {
		for i := range int64(2) {
			first := come(k, 7, i)
			same(t, what+": none", first.Code, int64(impl.ErrNone))
			same(t, what+": nothing but the kernel", first.N == 0 && first.Handle == impl.Handle{} && len(first.Handles) == 0, true)
			fasts(t, what+": without that Fast", first.Kernel, w.deck, w.four()[:3]...)
			alike(t, what+": the Maps stay", impl.Find(first.Kernel, w.deck).Maps, impl.Find(w.k, w.deck).Maps)
			same(t, what+": no word is turned", first.Kernel.Words, k.Words)
			stale(t, what+": the other one stays", first.Kernel, w.deck, 0)
			nothingThere(t, what+": and then no kernel any more", first.Kernel, 1, w.deck, 7)

			second := come(first.Kernel, 0, i)
			same(t, what+": none", second.Code, int64(impl.ErrNone))
			fasts(t, what+": without either", second.Kernel, w.deck, w.four()[1:3]...)
			stale(t, what+": none is left", second.Kernel, w.deck)
			nothingThere(t, what+": the first", second.Kernel, 1, w.deck, 0)
			nothingThere(t, what+": the second", second.Kernel, 1, w.deck, 7)
			same(t, what+": the others stand", loaded(t, second.Kernel, 1, w.deck, 4, i).N, 1028+i)
		}
	}
}

func TestASegmentThatIsGoneWithoutAFast(t *testing.T) {
	w := newHall(t)
	k := done(t, mappedIn(t, w.k, 1, w.deck, 2, w.mid, 0))
	k = done(t, mappedIn(t, k, 1, w.deck, 5, w.mid, 0))
	k = done(t, loaded(t, k, 1, w.deck, 5, 0))
	k = impl.Drop(k, 1, w.mid).Kernel
	stale(t, "only what is fast", k, w.deck, 5)
	nothingThere(t, "no Fast, no kernel", k, 1, w.deck, 2)
	gone := loaded(t, k, 1, w.deck, 5, 1)
	same(t, "with one there is a kernel", impl.KernelRight(gone.Kernel) && gone.Code == impl.ErrNone, true)
	maps(t, "the Maps stay", gone.Kernel, w.deck, impl.Map{Va: 2, Seg: w.mid}, impl.Map{Va: 5, Seg: w.mid})
	out := done(t, mappedOut(t, k, 1, w.deck, 5))
	stale(t, "mapped out", out, w.deck)
	nothingThere(t, "mapped out", out, 1, w.deck, 5)
	in := done(t, mappedIn(t, k, 1, w.deck, 5, w.low, 0))
	stale(t, "another page", in, w.deck)
	same(t, "another page", loaded(t, in, 1, w.deck, 5, 0).N, int64(1016))
	again := done(t, mappedIn(t, k, 1, w.deck, 5, w.mid, 0))
	stale(t, "the same name", again, w.deck)
	nothingThere(t, "the same name", again, 1, w.deck, 5)
}

// A segment that is made anew in the slot, and in the pages, of one that is gone is not what stood there.
func TestMadeAnewIsNotWhatStoodThere(t *testing.T) {
	w := fastHall(t)
	k := impl.Drop(w.k, 1, w.low).Kernel
	k, anew := made(t, k, 1, w.box, impl.KdSeg, 1, 1)
	k = impl.Fill(k, 1, anew, 6666).Kernel
	same(t, "the same pages", impl.Find(k, anew).At, int64(8))
	same(t, "the same slot", []int64{anew.Gen, impl.ArenaFind(k.Arenas[1], anew)}, []int64{1, impl.ArenaFind(w.k.Arenas[1], w.low)})
	stale(t, "gone all the same", k, w.deck, 0, 7)
	for what, come := range lookAndStore(t, w.deck, 1) {
		for _, va := range []int64{0, 7} {
			out := come(k, va, 0)
			same(t, what+": none", out.Code, int64(impl.ErrNone))
			same(t, what+": nothing is told of it", out.N, int64(0))
			same(t, what+": nor written", peeked(t, out.Kernel, anew), times(4, 6666))
			nothingThere(t, what+": and then", out.Kernel, 1, w.deck, va)
		}
	}
	k = done(t, mappedIn(t, k, 1, w.deck, 7, anew, 1))
	stale(t, "one of them is mapped anew", k, w.deck, 0)
	same(t, "under its own name it is there", loaded(t, k, 1, w.deck, 7, 0).N, int64(6666))
}

// What is in a box that is dropped is gone for spaces that are not in it.
func TestASegmentThatIsGoneWithItsBox(t *testing.T) {
	w := newHall(t)
	k, far := made(t, w.k, 0, w.root, impl.KdBox, 1, 3)
	k, seg := made(t, k, 1, far, impl.KdSeg, 1, 1)
	k = done(t, mappedIn(t, k, 1, w.deck, 1, seg, 1))
	k = done(t, mappedIn(t, k, 1, w.deck, 2, seg, 0))
	k = done(t, mappedIn(t, k, 1, w.deck, 6, w.wide, 0))
	for _, va := range []int64{1, 6} {
		k = done(t, stored(t, k, 1, w.deck, va, 1, 40+va))
	}
	same(t, "there", peeked(t, k, seg), []int64{0, 0, 0, 41})
	k = impl.Drop(k, 0, far).Kernel
	stale(t, "gone with its box", k, w.deck, 1)
	for what, come := range lookAndStore(t, w.deck, 1) {
		first := come(k, 1, 1)
		same(t, what+": none", first.Code, int64(impl.ErrNone))
		fasts(t, what+": without that Fast", first.Kernel, w.deck, impl.Fast{Va: 6, Seg: w.wide, At: 12})
		stale(t, what+": none is left", first.Kernel, w.deck)
		nothingThere(t, what+": fast", first.Kernel, 1, w.deck, 1)
		nothingThere(t, what+": slow", k, 1, w.deck, 2)
		same(t, what+": what is in another box stays", loaded(t, first.Kernel, 1, w.deck, 6, 1).N, int64(46))
	}
	whole := impl.Drop(k, 0, w.box).Kernel
	stale(t, "the space is gone, too", whole, w.deck)
	faulted(t, "map in", mappedIn(t, whole, 1, w.deck, 1, w.porch, 0), impl.ErrNone)
	faulted(t, "map out", mappedOut(t, whole, 1, w.deck, 1), impl.ErrNone)
	nothingThere(t, "the space is gone, too", whole, 1, w.deck, 6)
}

// Stale rises, and tells of a Va for each, wherever the segments were.
func TestStaleOfAllVas(t *testing.T) {
	w := newHall(t)
	segs := []impl.Handle{w.low, w.mid, w.wide}
	k := w.k
	for n := range int64(8) {
		va := (n * 5) % 8
		k = done(t, mappedIn(t, k, 1, w.deck, va, segs[va%3], 0))
		if va != 6 {
			k = done(t, loaded(t, k, 1, w.deck, va, 0))
		}
	}
	stale(t, "none", k, w.deck)
	k = impl.Drop(k, 1, w.low).Kernel
	stale(t, "low", k, w.deck, 0, 3)
	k = impl.Drop(k, 1, w.wide).Kernel
	stale(t, "low and wide", k, w.deck, 0, 2, 3, 5)
	k = impl.Drop(k, 1, w.mid).Kernel
	stale(t, "all but what is not fast", k, w.deck, 0, 1, 2, 3, 4, 5, 7)
	left := []int64{0, 1, 2, 3, 4, 5, 7}
	for n, va := range []int64{3, 7, 0, 1, 5, 2, 4} {
		out := loaded(t, k, 1, w.deck, va, 0)
		same(t, "none", out.Code, int64(impl.ErrNone))
		k = out.Kernel
		for i, one := range left {
			if one == va {
				left = append(left[:i], left[i+1:]...)
				break
			}
		}
		same(t, "how many are left", len(left), 6-n)
		stale(t, "one less", k, w.deck, left...)
	}
}

// Maps of what is no such segment: whether it is there is not asked by MapIn, but by who looks.
func TestMapsOfWhatIsNoSegment(t *testing.T) {
	w := newHall(t)
	never := impl.Handle{By: 1, Id: w.low.Id, Gen: 2}
	for what, one := range map[string]struct {
		seg  impl.Handle
		page int64
	}{
		"a name that never was":    {never, 0},
		"a name that is never one": {impl.Handle{Gen: impl.MaxGen}, 31},
		"the zero Handle":          {impl.Handle{}, 0},
		"no label":                 {impl.Handle{By: 16, Id: w.low.Id}, 0},
		"below all labels":         {impl.Handle{By: -1, Id: w.low.Id}, 0},
		"far beyond":               {impl.Handle{By: 1 << 62, Id: -1 << 63, Gen: 1<<63 - 1}, 0},
		"a box":                    {w.box, 0},
		"the root":                 {w.root, 0},
		"a space":                  {w.desk, 0},
		"the space itself":         {w.deck, 0},
		"too few pages":            {w.mid, 1},
		"too few pages, of two":    {w.low, 2},
		"too few pages, of four":   {w.wide, 4},
		"far too few pages":        {w.wide, 31},
	} {
		in := mappedIn(t, w.k, 1, w.deck, 4, one.seg, one.page)
		same(t, what+": mapped in", in.Code, int64(impl.OK))
		maps(t, what, in.Kernel, w.deck, impl.Map{Va: 4, Seg: one.seg, Page: one.page})
		nothingThere(t, what, in.Kernel, 1, w.deck, 4)
		stale(t, what+": nothing is fast", in.Kernel, w.deck)
		gone := done(t, mappedOut(t, in.Kernel, 1, w.deck, 4))
		alike(t, what+": mapped out", gone, w.k)
	}
	k := impl.Drop(w.k, 1, w.low).Kernel
	k = done(t, mappedIn(t, k, 1, w.deck, 4, w.low, 0))
	nothingThere(t, "a segment that is gone", k, 1, w.deck, 4)
}

// A kernel may be right, and have Fasts that no call puts: its words are where a Fast's At tells, and only what is gone
// is taken away.
func TestFastsThatNoCallPuts(t *testing.T) {
	w := fastHall(t)
	for at := range int64(32) {
		k := copyKernel(w.k)
		slotOf(k, w.deck).Obj.Fasts[1].At = at
		same(t, "right", impl.KernelRight(k), true)
		for i := range int64(2) {
			alike(t, "load", loaded(t, k, 1, w.deck, 3, i), impl.KernOut{Kernel: k, N: 1000 + at*2 + i})
			written(t, "store", stored(t, k, 1, w.deck, 3, i, 7), k, at*2+i, 7)
		}
	}
	for what, one := range map[string]impl.Fast{
		"of a box":                   {Va: 3, Seg: w.box, At: 10},
		"of the root":                {Va: 3, Seg: w.root, At: 10},
		"of a space":                 {Va: 3, Seg: w.desk, At: 10},
		"of the space itself":        {Va: 3, Seg: w.deck, At: 10},
		"of a page that is not here": {Va: 3, Seg: w.mid, Page: 1, At: 10},
		"of the last page":           {Va: 3, Seg: w.mid, Page: 31, At: 31},
		"of a segment of no page":    {Va: 3, Seg: w.low, Page: 2, At: 8},
	} {
		k := copyKernel(w.k)
		o := &slotOf(k, w.deck).Obj
		o.Maps[1], o.Fasts[1] = impl.Map{Va: 3, Seg: one.Seg, Page: one.Page}, one
		same(t, what+": right", impl.KernelRight(k), true)
		stale(t, what+": not gone", k, w.deck)
		nothingThere(t, what, k, 1, w.deck, 3)
	}
	for what, seg := range map[string]impl.Handle{
		"no label": {By: 16}, "below all": {By: -5}, "never one": {Gen: impl.MaxGen}, "zero": {}, "another Gen": {By: 1, Id: w.mid.Id, Gen: 1},
	} {
		k := copyKernel(w.k)
		o := &slotOf(k, w.deck).Obj
		o.Maps[1].Seg, o.Fasts[1].Seg = seg, seg
		stale(t, what+": gone", k, w.deck, 3)
		out := loaded(t, k, 1, w.deck, 3, 0)
		same(t, what+": none", out.Code, int64(impl.ErrNone))
		four := w.four()
		fasts(t, what+": without that Fast", out.Kernel, w.deck, four[0], four[2], four[3])
		nothingThere(t, what+": and then", out.Kernel, 1, w.deck, 3)
	}
}
