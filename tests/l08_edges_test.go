package tests

import (
	"math"
	"testing"

	"loop.example/g00740/impl"
)

func TestSpacesWhoAtItsEdges(t *testing.T) {
	w := fastHall(t)
	for _, who := range noLabels {
		for _, h := range append(liveOf(w.k), impl.Handle{}, impl.Handle{By: who}) {
			faulted(t, "map in", impl.MapIn(w.k, who, h, 0, w.low, 0), impl.ErrForm)
			faulted(t, "map out", impl.MapOut(w.k, who, h, 0), impl.ErrForm)
			faulted(t, "load", impl.Load(w.k, who, h, 0, 0), impl.ErrForm)
			faulted(t, "store", impl.Store(w.k, who, h, 0, 0, 0), impl.ErrForm)
		}
	}
	for _, who := range []int64{0, 15} {
		k, space, seg := placeOfLabels(t, who, who, who, who)
		k = done(t, mappedIn(t, k, who, space, 1, seg, 1))
		k = done(t, stored(t, k, who, space, 1, 1, 8))
		same(t, "loaded", loaded(t, k, who, space, 1, 1).N, int64(8))
		k = done(t, mappedOut(t, k, who, space, 1))
		maps(t, "mapped out", k, space)
	}
}

// noVas are just beyond the edges of a Va, and far beyond.
var noVas = append([]int64{-1, -8, 8, 9, 15, 16, 256, 1 << 32, 1<<32 + 3}, wideNumbers...)

func TestVasAtTheirEdges(t *testing.T) {
	w := newHall(t)
	for _, va := range []int64{0, 7} {
		k := done(t, mappedIn(t, w.k, 1, w.deck, va, w.wide, 1))
		maps(t, "mapped in", k, w.deck, impl.Map{Va: va, Seg: w.wide, Page: 1})
		same(t, "loaded", loaded(t, k, 1, w.deck, va, 1).N, int64(1027))
		k = done(t, stored(t, k, 1, w.deck, va, 0, 3))
		fasts(t, "fast", k, w.deck, impl.Fast{Va: va, Seg: w.wide, Page: 1, At: 13})
		nothingThere(t, "the other one", k, 1, w.deck, 7-va)
		maps(t, "mapped out", done(t, mappedOut(t, k, 1, w.deck, va)), w.deck)
	}
	w = fastHall(t)
	for _, va := range noVas {
		for _, h := range []impl.Handle{w.deck, w.desk, w.box, {}} {
			for _, who := range []int64{0, 1, 3} {
				faulted(t, "map in", mappedIn(t, w.k, who, h, va, w.low, 0), impl.ErrForm)
				faulted(t, "map out", mappedOut(t, w.k, who, h, va), impl.ErrForm)
				faulted(t, "load", loaded(t, w.k, who, h, va, 0), impl.ErrForm)
				faulted(t, "store", stored(t, w.k, who, h, va, 0, 0), impl.ErrForm)
			}
		}
	}
}

func TestPagesAtTheirEdges(t *testing.T) {
	w := newHall(t)
	for _, page := range []int64{0, 1, 30, 31} {
		in := done(t, mappedIn(t, w.k, 1, w.deck, 2, w.low, page))
		maps(t, "mapped in", in, w.deck, impl.Map{Va: 2, Seg: w.low, Page: page})
	}
	for _, page := range append([]int64{-1, -2, -32, 32, 33, 63, 64, 256}, wideNumbers...) {
		for _, h := range []impl.Handle{w.deck, w.box, {}} {
			for _, who := range []int64{0, 1, 3} {
				faulted(t, "map in", mappedIn(t, w.k, who, h, 2, w.low, page), impl.ErrForm)
			}
		}
	}
	out := impl.KernelNew(6)
	k, space := made(t, out.Kernel, 0, out.Handle, impl.KdSpace, 0, 0)
	k, seg := made(t, k, 0, out.Handle, impl.KdSeg, 0, 5)
	for _, page := range []int64{0, 31} {
		in := done(t, mappedIn(t, k, 0, space, 2, seg, page))
		in = done(t, stored(t, in, 0, space, 2, 1, 65535))
		same(t, "its word", in.Words[page*2+1], int64(65535))
		fasts(t, "fast", in, space, impl.Fast{Va: 2, Seg: seg, Page: page, At: page})
	}
}

// The last page of a segment is there, and the one behind it is not, even where another segment has it.
func TestTheLastPageOfASegment(t *testing.T) {
	for order := range int64(5) {
		r := newRow(t, order, order)
		k, space := made(t, r.k, 1, r.box, impl.KdSpace, 1, 0)
		for s, seg := range r.segs {
			many := sizeOf(order)
			last := done(t, mappedIn(t, k, 1, space, 3, seg, many-1))
			last = done(t, stored(t, last, 1, space, 3, 1, 12))
			same(t, "the last word", last.Words[(int64(s)*many+many)*2-1], int64(12))
			for _, page := range []int64{many, many + 1, 31} {
				behind := done(t, mappedIn(t, k, 1, space, 3, seg, page))
				nothingThere(t, "behind it", behind, 1, space, 3)
			}
		}
	}
}

func TestPlacesInAPageAtTheirEdges(t *testing.T) {
	w := fastHall(t)
	for i := range int64(2) {
		same(t, "load", loaded(t, w.k, 1, w.deck, 4, i).N, 1028+i)
		written(t, "store", stored(t, w.k, 1, w.deck, 4, i, 9), w.k, 28+i, 9)
	}
	for _, i := range append([]int64{-1, -2, 2, 3, 4, 64, 256, 1 << 32}, wideNumbers...) {
		for _, h := range []impl.Handle{w.deck, w.desk, w.box, {}} {
			for _, who := range []int64{0, 1, 3} {
				for _, va := range []int64{4, 5} {
					faulted(t, "load", loaded(t, w.k, who, h, va, i), impl.ErrForm)
					faulted(t, "store", stored(t, w.k, who, h, va, i, 9), impl.ErrForm)
				}
			}
		}
	}
}

func TestStoredWordsAtTheirEdges(t *testing.T) {
	w := fastHall(t)
	for _, v := range []int64{0, 1, 255, 256, 32767, 32768, 65534, 65535} {
		k := written(t, "store", stored(t, w.k, 1, w.deck, 7, 1, v), w.k, 19, v)
		alike(t, "load", loaded(t, k, 1, w.deck, 7, 1), impl.KernOut{Kernel: k, N: v})
	}
	for _, v := range noKeys {
		for _, h := range []impl.Handle{w.deck, w.desk, w.box, {}} {
			for _, who := range []int64{0, 1, 3} {
				faulted(t, "store", stored(t, w.k, who, h, 7, 1, v), impl.ErrForm)
			}
		}
	}
}

// noSpace asks that each call tells of a name, to whomever, that there is none, and Stale nothing.
func noSpace(t *testing.T, what string, k impl.Kernel, h impl.Handle) {
	t.Helper()
	for who := range int64(16) {
		for _, va := range []int64{0, 3, 7} {
			faulted(t, what+": map in", impl.MapIn(k, who, h, va, h, 0), impl.ErrNone)
			faulted(t, what+": map out", impl.MapOut(k, who, h, va), impl.ErrNone)
			faulted(t, what+": load", impl.Load(k, who, h, va, 0), impl.ErrNone)
			faulted(t, what+": store", impl.Store(k, who, h, va, 0, 1), impl.ErrNone)
		}
	}
	alike(t, what+": stale", impl.Stale(k, h), []int64(nil))
}

func TestHandlesThatAreNoSpaces(t *testing.T) {
	w := fastHall(t)
	w.k = impl.Drop(w.k, 1, w.low).Kernel // so that there is something stale near by
	stale(t, "the space", w.k, w.deck, 0, 7)
	for what, h := range map[string]impl.Handle{
		"the root": w.root, "a box": w.box, "a segment": w.mid, "a segment in the root": w.porch, "a segment that is gone": w.low,
		"the zero Handle": {}, "a name that never is one": {Gen: impl.MaxGen},
	} {
		noSpace(t, what, w.k, h)
	}
	for _, no := range noNames(w.deck) {
		noSpace(t, "near to one", w.k, no)
	}
	gone := impl.Drop(w.k, 1, w.deck).Kernel
	noSpace(t, "dropped", gone, w.deck)
	again, anew := made(t, gone, 1, w.box, impl.KdSpace, 1, 0)
	noSpace(t, "dropped, and one made anew", again, w.deck)
	maps(t, "the new one has nothing", again, anew)
	fasts(t, "the new one has nothing", again, anew)
	nothingThere(t, "the new one has nothing", again, 1, anew, 3)
}

// The zero Handle is a name like any other one, where a space or a segment has it.
func TestASpaceOfTheZeroHandle(t *testing.T) {
	out := impl.KernelNew(14)
	k, space := made(t, out.Kernel, 0, out.Handle, impl.KdSpace, 0, 0)
	k, seg := made(t, k, 0, out.Handle, impl.KdSeg, 0, 1)
	zero := impl.Handle{}
	other := renamed(k, space, 0)
	other = done(t, mappedIn(t, other, 0, zero, 5, seg, 1))
	other = done(t, stored(t, other, 0, zero, 5, 0, 17))
	same(t, "a space", peeked(t, other, seg), []int64{0, 0, 17, 0})
	fasts(t, "a space", other, zero, impl.Fast{Va: 5, Seg: seg, Page: 1, At: 1})
	other = renamed(k, seg, 0)
	other = done(t, mappedIn(t, other, 0, space, 5, zero, 1))
	other = done(t, stored(t, other, 0, space, 5, 1, 17))
	same(t, "a segment", peeked(t, other, zero), []int64{0, 0, 0, 17})
	other = impl.Drop(other, 0, zero).Kernel
	stale(t, "a segment that is gone", other, space, 5)
	same(t, "gone", loaded(t, other, 0, space, 5, 1).Code, int64(impl.ErrNone))
}

// placeOfLabels is a kernel with a space, made by one label, of another one, and a segment of two pages likewise.
func placeOfLabels(t *testing.T, spaceBy int64, spaceOf int64, segBy int64, segOf int64) (impl.Kernel, impl.Handle, impl.Handle) {
	t.Helper()
	out := impl.KernelNew(41)
	k := out.Kernel
	boxOf := func(of int64) impl.Handle {
		if of == 0 {
			return out.Handle
		}
		made := impl.Make(k, 0, out.Handle, impl.KdBox, of, 2)
		k = done(t, made)
		return made.Handle
	}
	first := boxOf(spaceBy)
	space := impl.Make(k, spaceBy, first, impl.KdSpace, spaceOf, 0)
	k = done(t, space)
	second := boxOf(segBy)
	seg := impl.Make(k, segBy, second, impl.KdSeg, segOf, 1)
	k = done(t, seg)
	for i := range k.Words {
		k.Words[i] = int64(i + 1)
	}
	return k, space.Handle, seg.Handle
}

// flowing are all pairs of labels of which the first one flows to the second one.
func flowing() [][2]int64 {
	var out [][2]int64
	for by := range int64(16) {
		for of := range int64(16) {
			if flowsByLetters(by, of) {
				out = append(out, [2]int64{by, of})
			}
		}
	}
	return out
}

// Who maps in and out must be one to whom the space's By flows, and who flows to its Of; who loads and stores its Of.
func TestWhoMayUseASpace(t *testing.T) {
	many := map[string]int{}
	for _, pair := range flowing() {
		by, of := pair[0], pair[1]
		k, space, seg := placeOfLabels(t, by, of, 0, of)
		open := done(t, mappedIn(t, k, of, space, 3, seg, 1))
		for who := range int64(16) {
			in, out := impl.MapIn(k, who, space, 6, seg, 0), impl.MapOut(open, who, space, 3)
			load, store := impl.Load(open, who, space, 3, 0), impl.Store(open, who, space, 3, 0, 9)
			if flowsByLetters(by, who) && flowsByLetters(who, of) {
				many["map"]++
				alike(t, "map in", in, mapInByWords(k, who, space, 6, seg, 0))
				same(t, "map in", in.Code, int64(impl.OK))
				maps(t, "map in", in.Kernel, space, impl.Map{Va: 6, Seg: seg})
				alike(t, "map out", out, impl.KernOut{Kernel: k})
			} else {
				faulted(t, "map in", in, impl.ErrNone)
				faulted(t, "map out", out, impl.ErrNone)
			}
			if who == of {
				many["look"]++
				same(t, "load", load.Code == impl.OK && load.N == slotOf(k, seg).Obj.At*2+3, true)
				same(t, "store", store.Code, int64(impl.OK))
			} else {
				faulted(t, "load", load, impl.ErrNone)
				faulted(t, "store", store, impl.ErrNone)
			}
		}
	}
	// 3 ways a bit of By and Of; of who both bits, if they differ, else one.
	same(t, "how many may", many, map[string]int{"map": 4 * 4 * 4 * 4, "look": 81})
}

// Who loads must be one to whom the segment's Of flows; who stores one to whom its By flows, and who flows to its Of.
func TestWhoMayUseASegmentInASpace(t *testing.T) {
	many := map[string]int{}
	for _, pair := range flowing() {
		by, of := pair[0], pair[1]
		for who := range int64(16) {
			k, space, seg := placeOfLabels(t, who, who, by, of)
			k = done(t, impl.MapIn(k, who, space, 2, seg, 1))
			at := slotOf(k, seg).Obj.At + 1
			load, store := impl.Load(k, who, space, 2, 1), impl.Store(k, who, space, 2, 1, 999)
			if flowsByLetters(of, who) {
				many["load"]++
				alike(t, "load", load, loadByWords(k, who, space, 2, 1))
				same(t, "load", load.N, at*2+2)
			} else {
				faulted(t, "load", load, impl.ErrNone)
			}
			if flowsByLetters(by, who) && flowsByLetters(who, of) {
				many["store"]++
				alike(t, "store", store, storeByWords(k, who, space, 2, 1, 999))
				same(t, "store", store.Kernel.Words[at*2+1], int64(999))
			} else {
				faulted(t, "store", store, impl.ErrNone)
			}
		}
	}
	same(t, "how many may", many, map[string]int{"load": 4 * 4 * 4 * 4, "store": 4 * 4 * 4 * 4})
}

func TestWhoMayUseASpaceByHand(t *testing.T) {
	k, space, seg := placeOfLabels(t, 1, 7, 1, 7)
	for _, who := range []int64{1, 3, 5, 7} {
		same(t, "may map", mappedIn(t, k, who, space, 0, seg, 0).Code, int64(impl.OK))
		same(t, "may unmap", mappedOut(t, k, who, space, 0).Code, int64(impl.OK))
	}
	for _, who := range []int64{0, 2, 4, 6, 8, 9, 11, 13, 15} {
		faulted(t, "may not map", mappedIn(t, k, who, space, 0, seg, 0), impl.ErrNone)
		faulted(t, "may not unmap", mappedOut(t, k, who, space, 0), impl.ErrNone)
	}
	k = done(t, mappedIn(t, k, 3, space, 0, seg, 0))
	for _, who := range []int64{0, 1, 2, 3, 5, 6, 15} {
		nothingThere(t, "not its Of", k, who, space, 0)
	}
	same(t, "its Of", loaded(t, k, 7, space, 0, 0).Code, int64(impl.OK))

	// A space of 3, and segments that may be looked at, or written, or neither.
	for _, one := range []struct {
		by, of      int64
		load, store bool
	}{
		{0, 0, true, false}, {0, 1, true, false}, {1, 1, true, false}, {3, 3, true, true}, {0, 3, true, true}, {2, 3, true, true},
		{0, 7, false, true}, {1, 15, false, true}, {3, 7, false, true}, {4, 4, false, false}, {0, 4, false, false},
		{4, 7, false, false}, {7, 7, false, false}, {0, 5, false, false}, {15, 15, false, false},
	} {
		k, space, seg := placeOfLabels(t, 3, 3, one.by, one.of)
		k = done(t, mappedIn(t, k, 3, space, 5, seg, 1))
		same(t, "load", loaded(t, k, 3, space, 5, 0).Code == impl.OK, one.load)
		same(t, "store", stored(t, k, 3, space, 5, 0, 1).Code == impl.OK, one.store)
	}
}

// A Fast spares nobody the question whether one may: who may store, and not look, learns nothing by it.
func TestAFastIsAskedAgain(t *testing.T) {
	k, space, seg := placeOfLabels(t, 1, 1, 1, 9)
	k = done(t, mappedIn(t, k, 1, space, 4, seg, 0))
	store := stored(t, k, 1, space, 4, 0, 77)
	same(t, "may store", []any{store.Code, store.N}, []any{int64(impl.OK), int64(0)})
	same(t, "fast", len(impl.Find(store.Kernel, space).Fasts), 1)
	faulted(t, "may not look", loaded(t, store.Kernel, 1, space, 4, 0), impl.ErrNone)
	same(t, "stored again", stored(t, store.Kernel, 1, space, 4, 1, 78).Kernel.Words[1+impl.Find(k, seg).At*2], int64(78))

	k, space, seg = placeOfLabels(t, 3, 3, 1, 1)
	k = done(t, mappedIn(t, k, 3, space, 4, seg, 0))
	load := loaded(t, k, 3, space, 4, 0)
	same(t, "may look", load.Code, int64(impl.OK))
	faulted(t, "may not store", stored(t, load.Kernel, 3, space, 4, 0, 1), impl.ErrNone)
	same(t, "may look still", loaded(t, load.Kernel, 3, space, 4, 0).N, load.N)
}

// What is stale is taken away for the space's Of alone: others are told nothing, and change nothing.
func TestWhoMayTakeAwayWhatIsStale(t *testing.T) {
	k, space, seg := placeOfLabels(t, 1, 3, 1, 3)
	k = done(t, mappedIn(t, k, 1, space, 0, seg, 0))
	k = done(t, loaded(t, k, 3, space, 0, 0))
	k = impl.Drop(k, 1, seg).Kernel
	stale(t, "stale", k, space, 0)
	for who := range int64(16) {
		if who == 3 {
			continue
		}
		nothingThere(t, "another label", k, who, space, 0)
	}
	for what, come := range lookAndStore(t, space, 3) {
		out := come(k, 0, 0)
		same(t, what, out.Code, int64(impl.ErrNone))
		stale(t, what+": taken away", out.Kernel, space)
	}
	nothingThere(t, "another place", k, 3, space, 1)
	for what, out := range map[string]impl.KernOut{
		"va": impl.Load(k, 3, space, 8, 0), "i": impl.Load(k, 3, space, 0, 2), "va of a store": impl.Store(k, 3, space, -1, 0, 0),
		"i of a store": impl.Store(k, 3, space, 0, -1, 0), "v": impl.Store(k, 3, space, 0, 0, 65536), "who": impl.Load(k, 16, space, 0, 0),
	} {
		faulted(t, "form ahead of what is stale: "+what, out, impl.ErrForm)
	}
}

// Of a call with two faults the first one is told, in the order of the document.
func TestTheOrderOfFaultsOfSpaces(t *testing.T) {
	w := fastHall(t)
	wrong := copyKernel(w.k)
	wrong.Words[63] = 65536
	for _, h := range []impl.Handle{w.deck, w.desk, w.box, w.low, {}, {By: math.MinInt64}} {
		for _, who := range []int64{-1, 0, 1, 3, 16} {
			for _, va := range []int64{-1, 0, 1, 8} {
				for _, n := range []int64{-1, 0, 2, 32} {
					faulted(t, "a wrong kernel ahead of all", impl.MapIn(wrong, who, h, va, w.low, n), impl.ErrForm)
					faulted(t, "a wrong kernel ahead of all", impl.MapOut(wrong, who, h, va), impl.ErrForm)
					faulted(t, "a wrong kernel ahead of all", impl.Load(wrong, who, h, va, n), impl.ErrForm)
					faulted(t, "a wrong kernel ahead of all", impl.Store(wrong, who, h, va, n, n), impl.ErrForm)
					mappedIn(t, w.k, who, h, va, w.low, n)
					mappedOut(t, w.k, who, h, va)
					loaded(t, w.k, who, h, va, n)
					for _, v := range []int64{-1, 0, 65536} {
						stored(t, w.k, who, h, va, n, v)
					}
				}
			}
		}
		alike(t, "stale of a wrong kernel", impl.Stale(wrong, h), []int64(nil))
	}
	faulted(t, "form ahead of none", impl.MapIn(w.k, 3, w.box, 0, w.low, 32), impl.ErrForm)
	faulted(t, "form ahead of none", impl.MapOut(w.k, 3, w.box, 8), impl.ErrForm)
	faulted(t, "form ahead of none", impl.Load(w.k, 3, w.box, 0, 2), impl.ErrForm)
	faulted(t, "form ahead of none", impl.Store(w.k, 3, w.box, 0, 0, -1), impl.ErrForm)
}
