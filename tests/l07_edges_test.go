package tests

import (
	"testing"

	"loop.example/g00740/impl"
)

func TestWordsWhoAtItsEdges(t *testing.T) {
	w := newTown(t)
	for _, who := range noLabels {
		for _, h := range append(liveOf(w.k), impl.Handle{}, impl.Handle{By: who}) {
			faulted(t, "peek", impl.Peek(w.k, who, h, 0), impl.ErrForm)
			faulted(t, "poke", impl.Poke(w.k, who, h, 0, 0), impl.ErrForm)
			faulted(t, "fill", impl.Fill(w.k, who, h, 0), impl.ErrForm)
		}
	}
	same(t, "peek by 0", impl.Peek(w.k, 0, w.plot, 0).N, int64(1016))
	written(t, "poke by 0", impl.Poke(w.k, 0, w.plot, 0, 3), w.k, 16, 3)
	written(t, "fill by 0", impl.Fill(w.k, 0, w.plot, 3), w.k, 16, times(8, 3)...)
	same(t, "peek by 15", impl.Peek(w.k, 15, w.safe, 0).N, int64(1004))
	written(t, "poke by 15", impl.Poke(w.k, 15, w.safe, 0, 3), w.k, 4, 3)
	written(t, "fill by 15", impl.Fill(w.k, 15, w.safe, 3), w.k, 4, 3, 3)
}

func TestWordsAtTheirEdges(t *testing.T) {
	w := newTown(t)
	for _, v := range []int64{0, 1, 255, 256, 32767, 32768, 65534, 65535} {
		k := written(t, "poke", impl.Poke(w.k, 1, w.well, 1, v), w.k, 1, v)
		alike(t, "peek", impl.Peek(k, 1, w.well, 1), impl.KernOut{Kernel: k, N: v})
		written(t, "fill", impl.Fill(w.k, 1, w.well, v), w.k, 0, v, v, v, v)
		same(t, "right", impl.KernelRight(k), true)
	}
	for _, v := range noKeys {
		for _, h := range []impl.Handle{w.well, w.plot, w.safe, w.root, {}} {
			for who := range int64(16) {
				faulted(t, "poke", impl.Poke(w.k, who, h, 1, v), impl.ErrForm)
				faulted(t, "fill", impl.Fill(w.k, who, h, v), impl.ErrForm)
			}
		}
	}
}

func TestPlacesOfWordsAtTheirEdges(t *testing.T) {
	for order := range int64(6) {
		k, seg := pairOf(t, order, false)
		many := sizeOf(order) * 2
		from := impl.Find(k, seg).At * 2
		for _, i := range []int64{0, 1, many - 1} {
			alike(t, "peek", impl.Peek(k, 0, seg, i), impl.KernOut{Kernel: k, N: 500 + from + i})
			written(t, "poke", impl.Poke(k, 0, seg, i, 65535), k, from+i, 65535)
		}
		for _, i := range append([]int64{-1, -2, -from, -from - 1, many, many + 1, 63, 64, 65, 128}, wideNumbers...) {
			if i >= 0 && i < many {
				continue
			}
			faulted(t, "peek", impl.Peek(k, 0, seg, i), impl.ErrRange)
			faulted(t, "poke", impl.Poke(k, 0, seg, i, 1), impl.ErrRange)
		}
	}
}

// noSegment asks that each call tells of a name, to whomever, that there is none, wherever in it one looks.
func noSegment(t *testing.T, what string, k impl.Kernel, h impl.Handle) {
	t.Helper()
	for who := range int64(16) {
		for _, i := range []int64{-1, 0, 1, 64} {
			faulted(t, what+": peek", impl.Peek(k, who, h, i), impl.ErrNone)
			faulted(t, what+": poke", impl.Poke(k, who, h, i, 1), impl.ErrNone)
		}
		faulted(t, what+": fill", impl.Fill(k, who, h, 1), impl.ErrNone)
	}
}

func TestHandlesThatAreNoSegments(t *testing.T) {
	w := newTown(t)
	for what, h := range map[string]impl.Handle{
		"the root": w.root, "a box": w.yard, "a box in a box": w.nest, "an empty box": w.shed, "a space": w.map0,
		"a space with Maps": w.map1, "the zero Handle": {}, "a name that never is one": {Gen: impl.MaxGen},
	} {
		noSegment(t, what, w.k, h)
	}
	for _, h := range segsOf(w.k) {
		for _, gen := range []int64{-1, 1, 2, impl.MaxGen, impl.MaxGen + 1} {
			noSegment(t, "another Gen", w.k, impl.Handle{By: h.By, Id: h.Id, Gen: gen})
		}
		for _, no := range noNames(h) {
			noSegment(t, "near to one", w.k, no)
		}
		gone := impl.Drop(w.k, h.By, h)
		noSegment(t, "dropped", gone.Kernel, h)
		up := impl.Find(w.k, h).Up
		again := impl.Make(gone.Kernel, h.By, up, impl.KdSeg, h.By, 0)
		same(t, "its slot is used again", again.Handle.Gen, int64(1))
		noSegment(t, "dropped, and its slot used again", again.Kernel, h)
		noSegment(t, "the Id that was, of the Gen that is", again.Kernel, impl.Handle{By: h.By, Id: h.Id, Gen: 1})
	}
	whole := impl.Drop(w.k, 0, w.yard)
	for _, h := range []impl.Handle{w.well, w.safe, w.loft} {
		noSegment(t, "gone with its box", whole.Kernel, h)
	}
}

// The zero Handle is a name like any other one, where a segment has it.
func TestASegmentOfTheZeroHandle(t *testing.T) {
	w := newTown(t)
	k := renamed(w.k, w.plot, 0)
	same(t, "right", impl.KernelRight(k), true)
	same(t, "its words", peeked(t, k, impl.Handle{}), []int64{1016, 1017, 1018, 1019, 1020, 1021, 1022, 1023})
	written(t, "poke", impl.Poke(k, 0, impl.Handle{}, 7, 1), k, 23, 1)
	written(t, "fill", impl.Fill(k, 0, impl.Handle{}, 1), k, 16, times(8, 1)...)
}

// segOfLabels is a kernel with a segment made by one label, of another one to which it flows.
func segOfLabels(t *testing.T, by int64, of int64) (impl.Kernel, impl.Handle) {
	t.Helper()
	out := impl.KernelNew(70)
	k, box := out.Kernel, out.Handle
	if by > 0 {
		k, box = made(t, k, 0, box, impl.KdBox, by, 2)
	}
	k, seg := made(t, k, by, box, impl.KdSeg, of, 1)
	for i := range k.Words {
		k.Words[i] = int64(i + 1)
	}
	return k, seg
}

// Who looks must be one to whom the segment's Of flows; who writes one to whom its By flows, and who flows to its Of.
func TestWhoMayLookAndWrite(t *testing.T) {
	many := map[string]int{}
	for by := range int64(16) {
		for of := range int64(16) {
			if !flowsByLetters(by, of) {
				continue
			}
			k, seg := segOfLabels(t, by, of)
			for who := range int64(16) {
				look, write := impl.KernOut{Code: impl.ErrNone}, impl.KernOut{Code: impl.ErrNone}
				fill := write
				if flowsByLetters(of, who) {
					look = impl.KernOut{Kernel: k, N: 3}
					many["look"]++
				}
				if flowsByLetters(by, who) && flowsByLetters(who, of) {
					write = pokeByWords(k, who, seg, 2, 99)
					fill = fillByWords(k, who, seg, 99)
					many["write"]++
				}
				alike(t, "peek", impl.Peek(k, who, seg, 2), look)
				alike(t, "poke", impl.Poke(k, who, seg, 2, 99), write)
				alike(t, "fill", impl.Fill(k, who, seg, 99), fill)
			}
		}
	}
	// 3 ways a bit of by and of, and of each: look with of's bit had, write with by's bit had and none of's lacking.
	same(t, "how many may", many, map[string]int{"look": 4 * 4 * 4 * 4, "write": 4 * 4 * 4 * 4})
}

func TestWhoMayByHand(t *testing.T) {
	k, seg := segOfLabels(t, 1, 7)
	for _, who := range []int64{7, 15} {
		same(t, "may look", impl.Peek(k, who, seg, 0).N, int64(1))
	}
	for _, who := range []int64{0, 1, 2, 3, 5, 6, 8, 9, 11, 13, 14} {
		faulted(t, "may not look", impl.Peek(k, who, seg, 0), impl.ErrNone)
	}
	for _, who := range []int64{1, 3, 5, 7} {
		same(t, "may write", impl.Poke(k, who, seg, 0, 5).Kernel.Words[0], int64(5))
		same(t, "may fill", impl.Fill(k, who, seg, 5).Kernel.Words[3], int64(5))
	}
	for _, who := range []int64{0, 2, 4, 6, 8, 9, 11, 13, 15} {
		faulted(t, "may not write", impl.Poke(k, who, seg, 0, 5), impl.ErrNone)
		faulted(t, "may not fill", impl.Fill(k, who, seg, 5), impl.ErrNone)
	}
}

// Who may write a segment, and not look at it, learns nothing of its words by writing.
func TestWhoWritesLearnsNothing(t *testing.T) {
	k, seg := segOfLabels(t, 0, 8)
	for _, v := range []int64{0, 1, 2, 65535} {
		for _, out := range []impl.KernOut{impl.Poke(k, 0, seg, 0, v), impl.Fill(k, 0, seg, v)} {
			same(t, "told beside the kernel", []any{out.Code, out.N, out.Handle, len(out.Handles)}, []any{int64(0), int64(0), impl.Handle{}, 0})
		}
	}
	faulted(t, "may not look", impl.Peek(k, 0, seg, 0), impl.ErrNone)
}

// Of a call with two faults the first one is told, in the order of the document.
func TestTheOrderOfFaultsOfWords(t *testing.T) {
	w := newTown(t)
	wrong := copyKernel(w.k)
	wrong.Words[63] = 65536
	for _, i := range []int64{-1, 0, 4, 64} {
		for _, h := range []impl.Handle{w.well, w.yard, {}} {
			for _, who := range []int64{0, 1, 3} {
				faulted(t, "a wrong kernel ahead of all", impl.Peek(wrong, who, h, i), impl.ErrForm)
				faulted(t, "a wrong kernel ahead of all", impl.Poke(wrong, who, h, i, 1), impl.ErrForm)
				faulted(t, "a wrong kernel ahead of all", impl.Fill(wrong, who, h, 1), impl.ErrForm)
				faulted(t, "no word ahead of none and range", impl.Poke(w.k, who, h, i, -1), impl.ErrForm)
				faulted(t, "no word ahead of none and range", impl.Poke(w.k, who, h, i, 65536), impl.ErrForm)
				faulted(t, "no word ahead of none", impl.Fill(w.k, who, h, -1), impl.ErrForm)
			}
			faulted(t, "no label ahead of none and range", impl.Peek(w.k, 16, h, i), impl.ErrForm)
			faulted(t, "no label ahead of none and range", impl.Poke(w.k, -1, h, i, 1), impl.ErrForm)
			faulted(t, "no label ahead of none", impl.Fill(w.k, 16, h, 1), impl.ErrForm)
		}
		faulted(t, "none ahead of range", impl.Peek(w.k, 1, w.yard, i), impl.ErrNone)
		faulted(t, "none ahead of range", impl.Peek(w.k, 0, w.well, i), impl.ErrNone)
		faulted(t, "none ahead of range", impl.Poke(w.k, 1, w.yard, i, 1), impl.ErrNone)
		faulted(t, "none ahead of range, as By does not flow to who", impl.Poke(w.k, 0, w.well, i, 1), impl.ErrNone)
		faulted(t, "none ahead of range, as who does not flow to Of", impl.Poke(w.k, 3, w.well, i, 1), impl.ErrNone)
	}
	faulted(t, "range", impl.Peek(w.k, 1, w.well, 4), impl.ErrRange)
	faulted(t, "range", impl.Poke(w.k, 1, w.well, 4, 1), impl.ErrRange)
}
