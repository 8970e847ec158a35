package tests

import (
	"fmt"
	"testing"

	"loop.example/g00740/impl"
)

// row is a kernel with a box of all pages, of label 1, and segments side by side in it.
type row struct {
	k    impl.Kernel
	box  impl.Handle
	segs []impl.Handle
}

func newRow(t *testing.T, orders ...int64) row {
	t.Helper()
	out := impl.KernelNew(31)
	var r row
	r.k, r.box = made(t, out.Kernel, 0, out.Handle, impl.KdBox, 1, 5)
	for _, order := range orders {
		var seg impl.Handle
		r.k, seg = made(t, r.k, 1, r.box, impl.KdSeg, 1, order)
		r.segs = append(r.segs, seg)
	}
	return r
}

func TestWordsByHand(t *testing.T) {
	w := newTown(t) // each word is 1000 and its place
	for _, one := range []struct {
		what  string
		h     impl.Handle
		words []int64
	}{
		{"plot", w.plot, []int64{1016, 1017, 1018, 1019, 1020, 1021, 1022, 1023}},
		{"well", w.well, []int64{1000, 1001, 1002, 1003}},
		{"safe", w.safe, []int64{1004, 1005}},
		{"loft", w.loft, []int64{1008, 1009}},
	} {
		same(t, one.what, peeked(t, w.k, one.h), one.words)
	}
	got := impl.Peek(w.k, 1, w.well, 3)
	alike(t, "peek", got, impl.KernOut{Kernel: w.k, N: 1003})
	k := written(t, "poke", impl.Poke(w.k, 1, w.well, 2, 77), w.k, 2, 77)
	same(t, "the word is 77", peeked(t, k, w.well), []int64{1000, 1001, 77, 1003})
	k = written(t, "poke", impl.Poke(k, 3, w.safe, 0, 65535), k, 4, 65535)
	same(t, "the word is 65535", peeked(t, k, w.safe), []int64{65535, 1005})
	k = written(t, "fill", impl.Fill(k, 7, w.loft, 5), k, 8, 5, 5)
	same(t, "all words are 5", peeked(t, k, w.loft), []int64{5, 5})
	k = written(t, "fill", impl.Fill(k, 0, w.plot, 0), k, 16, 0, 0, 0, 0, 0, 0, 0, 0)
	same(t, "all words are 0", peeked(t, k, w.plot), make([]int64, 8))
	same(t, "the others are as they were", peeked(t, k, w.well), []int64{1000, 1001, 77, 1003})
	same(t, "as handed in", peeked(t, w.k, w.well), []int64{1000, 1001, 1002, 1003})
}

// Promise 9: a word that is written is looked at; no other one is turned, in segments side by side of all orders.
func TestAWordThatIsWrittenIsLookedAt(t *testing.T) {
	for _, orders := range [][]int64{{4, 3, 2, 1, 0, 0}, {0, 0, 1, 2, 3, 4}, {0, 0, 0, 0, 0, 0}, {2, 2, 2, 2, 2, 2}, {3, 3, 3, 3}, {4, 4}, {5}} {
		r := newRow(t, orders...)
		k := r.k
		want := map[impl.Handle][]int64{}
		next := int64(40000)
		for s, seg := range r.segs {
			many := sizeOf(orders[s]) * 2
			want[seg] = make([]int64, many)
			from, _ := spanOf(k, seg)
			for i := range many {
				next++
				k = written(t, "poke", impl.Poke(k, 1, seg, i, next), k, from+i, next)
				alike(t, "peek", impl.Peek(k, 1, seg, i), impl.KernOut{Kernel: k, N: next})
				want[seg][i] = next
				if i > 1 && i < many-2 {
					continue // the places near an end tell whether a neighbour is turned
				}
				for _, other := range r.segs {
					same(t, "all words", peeked(t, k, other), wordsOr(want[other], k, other))
				}
			}
		}
		for _, seg := range r.segs {
			same(t, "all words in the end", peeked(t, k, seg), want[seg])
		}
		same(t, "right", impl.KernelRight(k), true)
	}
}

// wordsOr are these words, or, if there are none yet, noughts.
func wordsOr(words []int64, k impl.Kernel, h impl.Handle) []int64 {
	from, to := spanOf(k, h)
	if words == nil {
		return make([]int64, to-from)
	}
	return words
}

func TestFillWritesAllWordsAndNoneBeside(t *testing.T) {
	for _, orders := range [][]int64{{4, 3, 2, 1, 0, 0}, {0, 0, 1, 2, 3, 4}, {0, 0, 0, 0, 0, 0}, {1, 1, 1, 1, 1, 1}, {4, 4}, {5}} {
		r := newRow(t, orders...)
		for i := range r.k.Words {
			r.k.Words[i] = int64(i * 9)
		}
		for s, seg := range r.segs {
			from, to := spanOf(r.k, seg)
			for _, v := range []int64{0, 1, r.k.Words[from], r.k.Words[to-1], 65535} {
				k := written(t, "fill", impl.Fill(r.k, 1, seg, v), r.k, from, times(to-from, v)...)
				same(t, "all its words", peeked(t, k, seg), times(sizeOf(orders[s])*2, v))
				for o, other := range r.segs {
					if o != s {
						same(t, "the others", peeked(t, k, other), peeked(t, r.k, other))
					}
				}
				twice := impl.Fill(k, 1, seg, v)
				alike(t, "fill again", twice, impl.KernOut{Kernel: k})
				same(t, "new memory", newMemory(twice, k), true)
			}
		}
	}
}

// A page of which one word is as asked already is filled, too.
func TestFillOfHalfFilledPages(t *testing.T) {
	r := newRow(t, 1)
	for bits := range 16 {
		for i := range 4 {
			r.k.Words[i] = int64(8 + bits>>i&1)
		}
		for _, v := range []int64{8, 9, 10} {
			written(t, "fill", impl.Fill(r.k, 1, r.segs[0], v), r.k, 0, v, v, v, v)
		}
	}
}

// pairOf is a kernel with a segment of that order, behind another one where there is room, in a box within a box, if deep.
func pairOf(t *testing.T, order int64, deep bool) (impl.Kernel, impl.Handle) {
	t.Helper()
	out := impl.KernelNew(17)
	k, box, who := out.Kernel, out.Handle, int64(0)
	if order < 5 {
		k, _ = made(t, k, 0, box, impl.KdSeg, 0, order)
	}
	if deep {
		k, box = made(t, k, 0, box, impl.KdBox, 2, min(order+2, 4+order/5))
		k, _ = made(t, k, 2, box, impl.KdSpace, 2, 0)
		k, box = made(t, k, 2, box, impl.KdBox, 6, min(order+1, 4+order/5))
		who = 6
		if order < 3 {
			k, _ = made(t, k, 6, box, impl.KdSeg, 6, order)
		}
	}
	k, seg := made(t, k, who, box, impl.KdSeg, who, order)
	for i := range k.Words {
		k.Words[i] = int64(500 + i)
	}
	return k, seg
}

func TestSegmentsOfEachOrderRootAndDeep(t *testing.T) {
	for order := range int64(6) {
		for _, deep := range []bool{false, true} {
			k, seg := pairOf(t, order, deep)
			at := impl.Find(k, seg).At
			same(t, "not at the front", at > 0, order < 5)
			same(t, "in a box", impl.Find(k, seg).Up != impl.RootOf(k), deep)
			many := sizeOf(order) * 2
			for i := range many {
				alike(t, "peek", impl.Peek(k, seg.By, seg, i), impl.KernOut{Kernel: k, N: 500 + at*2 + i})
				written(t, "poke", impl.Poke(k, seg.By, seg, i, 7), k, at*2+i, 7)
			}
			written(t, "fill", impl.Fill(k, seg.By, seg, 7), k, at*2, times(many, 7)...)
			for _, i := range []int64{-1, many} {
				faulted(t, "no such word", impl.Peek(k, seg.By, seg, i), impl.ErrRange)
				faulted(t, "no such word", impl.Poke(k, seg.By, seg, i, 7), impl.ErrRange)
			}
		}
	}
}

// Promise 9: a segment that is made anew, where another one was, is all noughts.
func TestMadeAnewIsAllNoughts(t *testing.T) {
	for order := range int64(6) {
		for _, deep := range []bool{false, true} {
			k, seg := pairOf(t, order, deep)
			k = impl.Fill(k, seg.By, seg, 65535).Kernel
			was := impl.Find(k, seg)
			k = impl.Drop(k, seg.By, seg).Kernel
			faulted(t, "gone", impl.Peek(k, 15, seg, 0), impl.ErrNone)
			k, anew := made(t, k, seg.By, was.Up, impl.KdSeg, seg.By, order)
			same(t, "the same pages", impl.Find(k, anew).At, was.At)
			same(t, "another name", anew == seg, false)
			same(t, "all noughts", peeked(t, k, anew), make([]int64, sizeOf(order)*2))
			for _, other := range segsOf(k) {
				if from, to := spanOf(k, other); other != anew {
					want := make([]int64, to-from)
					for i := range want {
						want[i] = 500 + from + int64(i)
					}
					same(t, "the other one has what it had", peeked(t, k, other), want)
				}
			}
			faulted(t, "the name that was", impl.Peek(k, 15, seg, 0), impl.ErrNone)
			faulted(t, "the name that was", impl.Poke(k, seg.By, seg, 0, 1), impl.ErrNone)
			faulted(t, "the name that was", impl.Fill(k, seg.By, seg, 1), impl.ErrNone)
		}
	}
}

// Pages of several segments, some of them written, become one segment's, and one segment's become several ones'.
func TestMadeAnewFromPieces(t *testing.T) {
	r := newRow(t, 0, 0, 1, 2)
	k := r.k
	for i, seg := range r.segs {
		k = impl.Fill(k, 1, seg, int64(60000+i)).Kernel
	}
	for _, seg := range r.segs[:3] {
		k = impl.Drop(k, 1, seg).Kernel
	}
	k, whole := made(t, k, 1, r.box, impl.KdSeg, 1, 2)
	same(t, "in their place", impl.Find(k, whole).At, int64(0))
	same(t, "all noughts", peeked(t, k, whole), make([]int64, 8))
	same(t, "the one behind", peeked(t, k, r.segs[3]), times(8, 60003))
	k = impl.Fill(k, 1, whole, 9).Kernel
	k = impl.Drop(k, 1, whole).Kernel
	k, first := made(t, k, 1, r.box, impl.KdSeg, 1, 0)
	k = impl.Poke(k, 1, first, 1, 4).Kernel
	k, second := made(t, k, 1, r.box, impl.KdSeg, 1, 0)
	same(t, "side by side", impl.Find(k, second).At, int64(1))
	same(t, "the second one", peeked(t, k, second), []int64{0, 0})
	same(t, "the first one", peeked(t, k, first), []int64{0, 4})
	same(t, "the one behind", peeked(t, k, r.segs[3]), times(8, 60003))
}

// What was in a box that is gone is not to be seen in what is made in its place, whoever makes it.
func TestMadeAnewWhereABoxWas(t *testing.T) {
	out := impl.KernelNew(44)
	k, box := made(t, out.Kernel, 0, out.Handle, impl.KdBox, 4, 3)
	k, high := made(t, k, 4, box, impl.KdSeg, 12, 3)
	k = impl.Fill(k, 12, high, 4321).Kernel
	k = impl.Drop(k, 0, box).Kernel
	k, low := made(t, k, 0, out.Handle, impl.KdSeg, 0, 4)
	same(t, "in its place", impl.Find(k, low).At, int64(0))
	same(t, "all noughts", peeked(t, k, low), make([]int64, 32))
	k = impl.Drop(k, 0, low).Kernel
	k, box = made(t, k, 0, out.Handle, impl.KdBox, 4, 3)
	k, again := made(t, k, 4, box, impl.KdSeg, 12, 3)
	same(t, "all noughts again", peeked(t, k, again), make([]int64, 16))
}

// Looking turns nothing; what is handed in to a call that writes is not turned, either.
func TestLookingTurnsNothing(t *testing.T) {
	w := newTown(t)
	before := fmt.Sprintf("%+v", w.k)
	for _, h := range append(liveOf(w.k), impl.Handle{}) {
		for who := int64(-1); who <= 16; who++ {
			for i := int64(-1); i <= 8; i++ {
				got := impl.Peek(w.k, who, h, i)
				if got.Code == impl.OK {
					same(t, "as it was", fmt.Sprintf("%+v", got.Kernel), before)
				}
			}
			impl.Poke(w.k, who, h, 1, 9)
			impl.Fill(w.k, who, h, 9)
		}
	}
	same(t, "as it was", fmt.Sprintf("%+v", w.k), before)
}

// What is written into an answer comes back neither to what was handed in nor to another answer.
func TestWordsAreNewMemory(t *testing.T) {
	w := newTown(t)
	words := append(append([]int64(nil), w.k.Words...), 5, 6)
	w.k.Words = words[:64]
	before := fmt.Sprintf("%+v", w.k)
	for _, call := range []func() impl.KernOut{
		func() impl.KernOut { return impl.Peek(w.k, 15, w.well, 0) },
		func() impl.KernOut { return impl.Poke(w.k, 1, w.well, 0, 9) },
		func() impl.KernOut { return impl.Fill(w.k, 1, w.well, 9) },
		func() impl.KernOut { return impl.Fill(w.k, 0, w.plot, 9) },
	} {
		first, second := call(), call()
		same(t, "code", first.Code, int64(impl.OK))
		same(t, "new memory", newMemory(first, w.k, second, words), true)
		told := fmt.Sprintf("%+v", second)
		for i := range first.Kernel.Words {
			first.Kernel.Words[i] = -7
		}
		first.Kernel.Arenas[1].Slots[0].Gen = -7
		first.Kernel.Arenas[0].Slots[0].Obj.Kids[0].Id = -7
		first.Kernel.Arenas[0].Slots[0].Obj.Room.Free[0].At = -7
		first.Kernel.Arenas[1].Slots[1].Obj.Maps[0].Va = -7
		first.Kernel.Arenas[1].Slots[1].Obj.Fasts[0].Va = -7
		same(t, "handed in, not changed", fmt.Sprintf("%+v", w.k), before)
		same(t, "another answer, not changed", fmt.Sprintf("%+v", second), told)
		same(t, "behind the words", words[64:], []int64{5, 6})
	}
}
