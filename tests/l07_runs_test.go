package tests

import (
	"fmt"
	"reflect"
	"testing"

	"loop.example/g00740/impl"
)

// A shelf of books knows the words of each segment by its name alone: it knows nothing of pages.
type books map[impl.Handle][]int64

// hold asks whether each segment of the kernel has just the words of its book.
func (b books) hold(t *testing.T, k impl.Kernel) {
	t.Helper()
	same(t, "right", impl.KernelRight(k), true)
	same(t, "how many segments", len(segsOf(k)), len(b))
	for h, words := range b {
		for i, word := range words {
			if got := impl.Peek(k, 15, h, int64(i)); got.Code != impl.OK || got.N != word {
				t.Fatalf("word %d of %v: code %d, got %d, want %d", i, h, got.Code, got.N, word)
			}
		}
	}
}

// drawnWord is a place in a segment as a rule, and who may write there as a rule.
func drawnWord(d *dice, k impl.Kernel, h impl.Handle) (who int64, i int64) {
	who, i = h.By, int64(d.draw(64))
	if one := slotOf(k, h); isSeg(one) {
		i = int64(d.draw(int(sizeOf(one.Obj.Order) * 2)))
		who |= one.Obj.Of & int64(d.draw(16))
	}
	switch d.draw(12) {
	case 0:
		who = int64(d.draw(18) - 1)
	case 1:
		i = int64(d.draw(70) - 3)
	case 2:
		i = wideNumbers[d.draw(len(wideNumbers))]
	}
	return who, i
}

// someSeg is a segment, if there is one, as a rule, and else any name.
func someSeg(d *dice, k impl.Kernel, gone []impl.Handle) impl.Handle {
	if segs := segsOf(k); len(segs) > 0 && d.draw(6) > 0 {
		return segs[d.draw(len(segs))]
	}
	return someName(d, k, gone)
}

// writeStep is a Poke or a Fill, held against the document's words, and noted in its book.
func (b books) writeStep(t *testing.T, d *dice, k impl.Kernel, gone []impl.Handle) (impl.Kernel, int64) {
	t.Helper()
	h := someSeg(d, k, gone)
	who, i := drawnWord(d, k, h)
	v := int64(d.draw(65536))
	if d.draw(15) == 0 {
		v = []int64{-1, 65536, wideNumbers[d.draw(len(wideNumbers))]}[d.draw(3)]
	}
	before := fmt.Sprintf("%+v", k)
	var out, want impl.KernOut
	poke := d.draw(2) == 0
	if poke {
		out, want = impl.Poke(k, who, h, i, v), pokeByWords(k, who, h, i, v)
	} else {
		out, want = impl.Fill(k, who, h, v), fillByWords(k, who, h, v)
	}
	alike(t, "write", out, want)
	same(t, "new memory", newMemory(out, k), true)
	same(t, "not changed", fmt.Sprintf("%+v", k), before)
	if out.Code != impl.OK {
		return k, out.Code
	}
	for at := range b[h] {
		if !poke || int64(at) == i {
			b[h][at] = v
		}
	}
	return out.Kernel, out.Code
}

// changeStep makes or drops something; a segment that is made has a book of noughts.
func (b books) changeStep(d *dice, k impl.Kernel, gone *[]impl.Handle) (impl.Kernel, int64) {
	if d.draw(3) > 0 {
		who, box, kind, of, order := drawnMake(d, k, *gone)
		out := impl.Make(k, who, box, kind, of, order)
		if out.Code != impl.OK {
			return k, out.Code
		}
		if kind == impl.KdSeg {
			b[out.Handle] = make([]int64, sizeOf(order)*2)
		}
		return out.Kernel, out.Code
	}
	h := someSeg(d, k, *gone)
	out := impl.Drop(k, h.By, h)
	if out.Code != impl.OK {
		return k, out.Code
	}
	*gone = append(*gone, h)
	for name := range b {
		if slotOf(out.Kernel, name) == nil {
			delete(b, name)
		}
	}
	return out.Kernel, out.Code
}

// Promise 9, in long runs: each segment has what was written last there, and noughts where nothing was, whatever stood in
// its pages ahead, and whatever is written, made and dropped beside it.
func TestLongRunsOfWords(t *testing.T) {
	d := dice(362436069)
	codes := map[int64]int{}
	for range 40 {
		k, b := impl.KernelNew(int64(d.draw(65536))).Kernel, books{}
		var gone []impl.Handle
		for range 90 {
			var code int64
			if d.draw(5) < 2 {
				k, code = b.changeStep(&d, k, &gone)
			} else {
				k, code = b.writeStep(t, &d, k, gone)
				codes[code]++
			}
			b.hold(t, k)
			h := someSeg(&d, k, gone)
			who, i := drawnWord(&d, k, h)
			alike(t, "peek", impl.Peek(k, who, h, i), peekByWords(k, who, h, i))
			if t.Failed() {
				t.FailNow()
			}
		}
	}
	for _, code := range []int64{impl.OK, impl.ErrForm, impl.ErrNone, impl.ErrRange} {
		if codes[code] < 60 {
			t.Errorf("code %d: only %d times", code, codes[code])
		}
	}
}

// checkWords holds the calls of chapter 8 against the document's words, of one kernel, right or not.
func checkWords(t *testing.T, d *dice, k impl.Kernel, who int64, h impl.Handle) {
	t.Helper()
	for _, i := range []int64{0, -1, int64(d.draw(66)), wideNumbers[d.draw(len(wideNumbers))]} {
		v := []int64{0, 65535, int64(d.draw(65536)), -1, 65536}[d.draw(5)]
		for _, one := range []struct {
			what      string
			got, want impl.KernOut
		}{
			{"peek", impl.Peek(k, who, h, i), peekByWords(k, who, h, i)},
			{"poke", impl.Poke(k, who, h, i, v), pokeByWords(k, who, h, i, v)},
			{"fill", impl.Fill(k, who, h, v), fillByWords(k, who, h, v)},
		} {
			alike(t, one.what, one.got, one.want)
			same(t, one.what+": new memory", newMemory(one.got, k), true)
			if one.got.Code == impl.OK {
				same(t, one.what+": right", impl.KernelRight(one.got.Kernel), true)
			}
		}
	}
}

func TestWordsByTheDocument(t *testing.T) {
	d := dice(521288629)
	many := map[bool]int{}
	for round := range 60 {
		k := impl.KernelNew(int64(d.draw(65536))).Kernel
		for range d.draw(40) {
			k = stepped(&d, k)
		}
		if round%2 == 0 {
			k = shaken(&d, k)
		}
		if round%5 == 0 {
			spoil(&d, &k.Arenas[d.draw(16)])
		}
		many[kernelRightByWords(k)]++
		before := fmt.Sprintf("%+v", k)
		for _, h := range append(liveOf(k), impl.Handle{}, impl.Handle{By: 1, Id: 2, Gen: 1}) {
			for _, who := range []int64{h.By, int64(d.draw(16)), 15, noLabels[d.draw(len(noLabels))]} {
				checkWords(t, &d, k, who, h)
			}
		}
		same(t, "not changed", fmt.Sprintf("%+v", k), before)
		if t.Failed() {
			t.FailNow()
		}
	}
	if many[true] < 30 || many[false] < 5 {
		t.Errorf("right and wrong: %v", many)
	}
}

// Of each kernel that differs from a right one in one thing the calls are refused just if it is not right.
func TestWordsOfEachMutant(t *testing.T) {
	w := newTown(t)
	d := dice(123456789)
	segs := segsOf(w.k)
	form := impl.KernOut{Code: impl.ErrForm}
	many := map[bool]int{}
	eachMutant(w.k, func(k impl.Kernel) {
		right := kernelRightByWords(k)
		many[right]++
		h := segs[d.draw(len(segs))]
		if right {
			checkWords(t, &d, k, h.By, h)
		}
		for what, out := range map[string]impl.KernOut{
			"peek": impl.Peek(k, h.By, h, 0), "poke": impl.Poke(k, h.By, h, 0, 1), "fill": impl.Fill(k, h.By, h, 1),
		} {
			if (out.Code == impl.ErrForm) == right || !right && !reflect.DeepEqual(out, form) {
				t.Fatalf("%s in %+v: got %+v", what, k, out)
			}
		}
	})
	if many[true] < 300 || many[false] < 300 {
		t.Errorf("only %v mutants", many)
	}
}
