package tests

import (
	"fmt"
	"reflect"
	"slices"
	"testing"

	"loop.example/g00740/impl"
)

// An atlas knows which page of which segment stands where, and the words of each segment by its name: it knows nothing
// of pages in memory, and of what is fast.
type atlas struct {
	books  books
	charts map[impl.Handle]map[int64]impl.Map // by space and Va
}

// told is what a Load must tell, by the atlas alone.
func (a atlas) told(k impl.Kernel, s impl.Handle, va int64, i int64) (int64, int64) {
	one, is := a.charts[s][va]
	words, there := a.books[one.Seg]
	if !is || !there || one.Page*2 >= int64(len(words)) || !flowsByLetters(slotOf(k, one.Seg).Obj.Of, slotOf(k, s).Obj.Of) {
		return 0, impl.ErrNone
	}
	return words[one.Page*2+i], impl.OK
}

// holds asks whether what stands in a space is what is in the segments, at each of its Vas.
func (a atlas) holds(t *testing.T, k impl.Kernel, s impl.Handle) {
	t.Helper()
	who := slotOf(k, s).Obj.Of
	for va := range int64(8) {
		i := va % 2
		n, code := a.told(k, s, va, i)
		if got := impl.Load(k, who, s, va, i); got.N != n || got.Code != code {
			t.Fatalf("va %d of %v: got %d, code %d, want %d, code %d", va, s, got.N, got.Code, n, code)
		}
	}
}

// follow brings the charts to the spaces that there are.
func (a atlas) follow(k impl.Kernel) {
	for s := range a.charts {
		if slotOf(k, s) == nil {
			delete(a.charts, s)
		}
	}
	for _, s := range spacesOf(k) {
		if a.charts[s] == nil {
			a.charts[s] = map[int64]impl.Map{}
		}
	}
}

// someSpace is a space, if there is one, as a rule, and else any name.
func someSpace(d *dice, k impl.Kernel, gone []impl.Handle) impl.Handle {
	if spaces := spacesOf(k); len(spaces) > 0 && d.draw(10) > 0 {
		return spaces[d.draw(len(spaces))]
	}
	return someName(d, k, gone)
}

// standsWell tells whether who may look at a segment, or write it.
func standsWell(k impl.Kernel, seg impl.Handle, who int64) bool {
	of := slotOf(k, seg).Obj.Of
	return flowsByLetters(of, who) || flowsByLetters(seg.By, who) && flowsByLetters(who, of)
}

// drawnMap is a page that stands well in that space as a rule.
func drawnMap(d *dice, k impl.Kernel, s impl.Handle, gone []impl.Handle) (impl.Handle, int64) {
	fits := slices.DeleteFunc(segsOf(k), func(h impl.Handle) bool {
		return slotOf(k, s) == nil || !standsWell(k, h, slotOf(k, s).Obj.Of)
	})
	seg := someName(d, k, gone)
	if len(fits) > 0 && d.draw(7) > 0 {
		seg = fits[d.draw(len(fits))]
	}
	if one := slotOf(k, seg); isSeg(one) && d.draw(8) > 0 {
		return seg, int64(d.draw(int(sizeOf(one.Obj.Order))))
	}
	return seg, int64(d.draw(34) - 1)
}

// drawnWho is one who may use that space as a rule.
func drawnWho(d *dice, k impl.Kernel, s impl.Handle) int64 {
	one := slotOf(k, s)
	if one == nil || d.draw(15) == 0 {
		return int64(d.draw(18) - 1)
	}
	return one.Obj.Of
}

// drawnVa is one at which something stands as a rule.
func drawnVa(d *dice, k impl.Kernel, s impl.Handle) int64 {
	one := slotOf(k, s)
	switch {
	case d.draw(25) == 0:
		return int64([]int{-1, 8}[d.draw(2)])
	case isSpace(one) && len(one.Obj.Maps) > 0 && d.draw(4) > 0:
		return one.Obj.Maps[d.draw(len(one.Obj.Maps))].Va
	}
	return int64(d.draw(8))
}

// growStep makes something, more segments and spaces than boxes, of the label of who makes it as a rule.
func (a atlas) growStep(d *dice, k impl.Kernel, gone []impl.Handle) impl.Kernel {
	who, box, kind, of, order := drawnMake(d, k, gone)
	switch d.draw(8) {
	case 0, 1, 2:
		kind, order = impl.KdSeg, int64(d.draw(2))
	case 3, 4:
		kind, order = impl.KdSpace, 0
	}
	if d.draw(3) > 0 && kind != impl.KdBox {
		of = who
	}
	out := impl.Make(k, who, box, kind, of, order)
	if out.Code != impl.OK {
		return k
	}
	if kind == impl.KdSeg {
		a.books[out.Handle] = make([]int64, sizeOf(order)*2)
	}
	return out.Kernel
}

// mapStep is a MapIn or a MapOut, noted in the atlas.
func (a atlas) mapStep(t *testing.T, d *dice, k impl.Kernel, gone []impl.Handle) (impl.Kernel, string) {
	t.Helper()
	s := someSpace(d, k, gone)
	who, va := drawnWho(d, k, s), drawnVa(d, k, s)
	var out impl.KernOut
	seg, page := drawnMap(d, k, s, gone)
	in := d.draw(5) > 0
	if in {
		out = mappedIn(t, k, who, s, va, seg, page)
	} else {
		out = mappedOut(t, k, who, s, va)
	}
	if out.Code != impl.OK {
		return k, fmt.Sprint("map ", out.Code)
	}
	delete(a.charts[s], va)
	if in {
		a.charts[s][va] = impl.Map{Va: va, Seg: seg, Page: page}
	}
	return out.Kernel, "map"
}

// useStep is a Load or a Store, held against the atlas, and noted there; what it tells beside a code is gone on with.
func (a atlas) useStep(t *testing.T, d *dice, k impl.Kernel, gone []impl.Handle) (impl.Kernel, string) {
	t.Helper()
	s := someSpace(d, k, gone)
	who, va, i := drawnWho(d, k, s), drawnVa(d, k, s), int64(d.draw(2))
	if d.draw(25) == 0 {
		i = int64([]int{-1, 2}[d.draw(2)])
	}
	what, v := "load", int64(d.draw(65536))
	var out impl.KernOut
	if d.draw(2) == 0 {
		out = loaded(t, k, who, s, va, i)
		if out.Code == impl.OK {
			n, code := a.told(k, s, va, i)
			same(t, "by the atlas", []int64{out.N, out.Code}, []int64{n, code})
		}
	} else {
		what = "store"
		out = stored(t, k, who, s, va, i, v)
		if out.Code == impl.OK {
			one := a.charts[s][va]
			a.books[one.Seg][one.Page*2+i] = v
		}
	}
	if out.Code == impl.OK {
		return out.Kernel, what
	}
	what = fmt.Sprint(what, " ", out.Code)
	if len(out.Kernel.Arenas) == 0 {
		return k, what
	}
	return out.Kernel, what + " and a kernel"
}

// dropFast drops a segment that some Fast stands for: by chance that comes too seldom.
func (a atlas) dropFast(t *testing.T, d *dice, k impl.Kernel, gone *[]impl.Handle) impl.Kernel {
	t.Helper()
	var fast []impl.Handle
	for _, s := range spacesOf(k) {
		for _, one := range slotOf(k, s).Obj.Fasts {
			if slotOf(k, one.Seg) != nil {
				fast = append(fast, one.Seg)
			}
		}
	}
	if len(fast) == 0 {
		return k
	}
	h := fast[d.draw(len(fast))]
	*gone = append(*gone, h)
	delete(a.books, h)
	return done(t, impl.Drop(k, h.By, h))
}

// Promise 10, in long runs: what stands in a space is what is in its segment, whatever is made, dropped, mapped and written
// beside it; when the segment is gone nothing is there.
func TestLongRunsOfSpaces(t *testing.T) {
	d := dice(7919_104729)
	many := map[string]int{}
	for range 60 {
		k := impl.KernelNew(int64(d.draw(65536))).Kernel
		a := atlas{books: books{}, charts: map[impl.Handle]map[int64]impl.Map{}}
		var gone []impl.Handle
		for step := range 180 {
			what := "change"
			switch n := d.draw(40); {
			case n < 4 || step < 30:
				k = a.growStep(&d, k, gone)
			case n == 4:
				k, _ = a.books.changeStep(&d, k, &gone)
			case n < 7:
				k = a.dropFast(t, &d, k, &gone)
			case n < 10:
				k, _ = a.books.writeStep(t, &d, k, gone)
			case n < 22:
				k, what = a.mapStep(t, &d, k, gone)
			default:
				k, what = a.useStep(t, &d, k, gone)
			}
			many[what]++
			a.follow(k)
			same(t, "right", impl.KernelRight(k), true)
			if spaces := spacesOf(k); len(spaces) > 0 {
				s := spaces[d.draw(len(spaces))]
				a.holds(t, k, s)
				alike(t, "stale", impl.Stale(k, s), staleByWords(k, s))
			}
			if t.Failed() {
				t.FailNow()
			}
		}
		a.books.hold(t, k)
	}
	for _, what := range []string{
		"map", "map 1", "map 6", "load", "load 1", "load 6", "load 6 and a kernel", "store", "store 1", "store 6", "store 6 and a kernel",
	} {
		if many[what] < 40 {
			t.Errorf("%s: only %d times of %v", what, many[what], many)
		}
	}
}

// shown is a kernel whose spaces have Maps and Fasts of all that is there, and of what is not.
func shown(d *dice, k impl.Kernel) impl.Kernel {
	k = copyKernel(k)
	for _, s := range spacesOf(k) {
		o := &slotOf(k, s).Obj
		o.Maps, o.Fasts = nil, nil
		for va := int64(0); va < 8; va += 1 + int64(d.draw(3)) {
			seg := someSeg(d, k, nil)
			one := impl.Map{Va: va, Seg: seg, Page: int64(d.draw(32))}
			if slot := slotOf(k, seg); isSeg(slot) && d.draw(4) > 0 {
				one.Page = int64(d.draw(int(sizeOf(slot.Obj.Order))))
			}
			o.Maps = append(o.Maps, one)
			if d.draw(2) == 0 {
				o.Fasts = append(o.Fasts, impl.Fast{Va: va, Seg: one.Seg, Page: one.Page, At: int64(d.draw(32))})
			}
		}
	}
	return k
}

// checkSpaces holds the calls of chapter 9 against the document's words, of one kernel, right or not.
func checkSpaces(t *testing.T, d *dice, k impl.Kernel, who int64, h impl.Handle) {
	t.Helper()
	wide := wideNumbers[d.draw(len(wideNumbers))]
	for _, va := range []int64{int64(d.draw(8)), int64(d.draw(8)), []int64{-1, 8, wide}[d.draw(3)]} {
		i := []int64{0, 1, 0, 1, 0, 1, -1, 2, wide}[d.draw(9)]
		v := []int64{0, 65535, int64(d.draw(65536)), 7, -1, 65536}[d.draw(6)]
		page := []int64{0, 31, int64(d.draw(32)), 5, -1, 32}[d.draw(6)]
		mappedIn(t, k, who, h, va, someName(d, k, nil), page)
		mappedOut(t, k, who, h, va)
		loaded(t, k, who, h, va, i)
		stored(t, k, who, h, va, i, v)
	}
	got := impl.Stale(k, h)
	alike(t, "stale", got, staleByWords(k, h))
	same(t, "stale: new memory", newMemory(got, k), true)
}

func TestSpacesByTheDocument(t *testing.T) {
	d := dice(6700417)
	many := map[bool]int{}
	for round := range 50 {
		k := impl.KernelNew(int64(d.draw(65536))).Kernel
		for range d.draw(50) {
			k = stepped(&d, k)
		}
		if round%2 == 0 {
			k = shaken(&d, k)
		}
		if round%8 != 0 {
			k = shown(&d, k)
		}
		if round%7 == 0 {
			spoil(&d, &k.Arenas[d.draw(16)])
		}
		many[kernelRightByWords(k)]++
		for _, h := range append(liveOf(k), impl.Handle{}, impl.Handle{By: 1, Id: 2, Gen: 1}) {
			of := int64(0)
			if one := slotOf(k, h); one != nil {
				of = one.Obj.Of
			}
			for _, who := range []int64{of, of, h.By, int64(d.draw(16)), noLabels[d.draw(len(noLabels))]} {
				checkSpaces(t, &d, k, who, h)
			}
		}
		if t.Failed() {
			t.FailNow()
		}
	}
	if many[true] < 25 || many[false] < 5 {
		t.Errorf("right and wrong: %v", many)
	}
}

// Of each kernel that differs from a right one in one thing the calls are refused just if it is not right.
func TestSpacesOfEachMutant(t *testing.T) {
	w := newTown(t)
	d := dice(15485863)
	form := impl.KernOut{Code: impl.ErrForm}
	many := map[bool]int{}
	eachMutant(w.k, func(k impl.Kernel) {
		right := kernelRightByWords(k)
		many[right]++
		h, who := w.map0, int64(0)
		if d.draw(3) > 0 {
			h, who = w.map1, 3
		}
		if right && many[right]%3 == 0 {
			checkSpaces(t, &d, k, who, h)
		}
		for what, out := range map[string]impl.KernOut{
			"map in": impl.MapIn(k, who, h, 3, w.well, 0), "map out": impl.MapOut(k, who, h, 3),
			"load": impl.Load(k, who, h, 0, 0), "store": impl.Store(k, who, h, 0, 0, 1),
		} {
			if (out.Code == impl.ErrForm) == right || !right && !reflect.DeepEqual(out, form) {
				t.Fatalf("%s in %+v: got %+v", what, k, out)
			}
		}
		if got := impl.Stale(k, h); !right && len(got) > 0 {
			t.Fatalf("stale in %+v: got %v", k, got)
		}
	})
	if many[true] < 300 || many[false] < 300 {
		t.Errorf("only %v mutants", many)
	}
}

// Lists that are shared in what is handed in, or have more behind them, are neither shared nor written on.
func TestSharedListsOfSpaces(t *testing.T) {
	w := fastHall(t)
	slow := append(slices.Clone(impl.Find(w.k, w.deck).Maps), impl.Map{Va: 90}, impl.Map{Va: 91})
	quick := append(w.four(), impl.Fast{Va: 90}, impl.Fast{Va: 91})
	words := append(slices.Clone(w.k.Words), 5, 6)
	w.k.Words = words[:64]
	for _, s := range []impl.Handle{w.deck, w.desk} {
		o := &slotOf(w.k, s).Obj
		o.Maps, o.Fasts = slow[:4], quick[:3]
	}
	k := impl.Drop(w.k, 1, w.mid).Kernel
	for _, s := range []impl.Handle{w.deck, w.desk} {
		o := &slotOf(k, s).Obj
		o.Maps, o.Fasts = slow[:4], quick[:3]
	}
	slowWas, quickWas, wordsWas := slices.Clone(slow), slices.Clone(quick), slices.Clone(words)
	for what, out := range map[string]impl.KernOut{
		"map in, ahead":        mappedIn(t, w.k, 1, w.deck, 1, w.wide, 0),
		"map in, behind":       mappedIn(t, w.k, 1, w.deck, 7, w.wide, 0),
		"map out":              mappedOut(t, w.k, 1, w.deck, 0),
		"load, fast":           loaded(t, w.k, 1, w.deck, 0, 0),
		"load, slow":           loaded(t, w.k, 1, w.deck, 7, 0),
		"store, fast":          stored(t, w.k, 1, w.deck, 0, 0, 9),
		"store, slow":          stored(t, w.k, 1, w.deck, 7, 0, 9),
		"load of what is gone": loaded(t, k, 1, w.deck, 3, 0),
	} {
		same(t, what+": a kernel is told", impl.KernelRight(out.Kernel), true)
		same(t, what+": new memory", newMemory(out, w.k, k, slow, quick, words), true)
		same(t, what+": the Maps", slow, slowWas)
		same(t, what+": the Fasts", quick, quickWas)
		same(t, what+": the words", words, wordsWas)
		other := impl.Find(out.Kernel, w.desk)
		alike(t, what+": the other space", []any{other.Maps, other.Fasts}, []any{slow[:4], quick[:3]})
	}
}

// What is written into an answer comes back neither to what was handed in nor to another answer.
func TestSpacesAreNewMemory(t *testing.T) {
	w := fastHall(t)
	k := impl.Drop(w.k, 1, w.mid).Kernel
	before := fmt.Sprintf("%+v", k)
	for _, call := range []func() impl.KernOut{
		func() impl.KernOut { return impl.MapIn(k, 1, w.deck, 5, w.low, 1) },
		func() impl.KernOut { return impl.MapOut(k, 1, w.deck, 7) },
		func() impl.KernOut { return impl.Load(k, 1, w.deck, 0, 0) },
		func() impl.KernOut { return impl.Store(k, 1, w.deck, 0, 0, 7) },
		func() impl.KernOut { return impl.Load(k, 1, w.deck, 3, 0) },
		func() impl.KernOut { return impl.Store(k, 1, w.deck, 3, 0, 7) },
	} {
		first, second := call(), call()
		same(t, "new memory", newMemory(first, k, second), true)
		told := fmt.Sprintf("%+v", second)
		o := &slotOf(first.Kernel, w.deck).Obj
		o.Maps[0].Va, o.Fasts[0].At, first.Kernel.Words[16] = -7, -7, -7
		first.Kernel.Arenas[0].Slots[0].Obj.Kids[0].Id = -7
		first.Kernel.Arenas[0].Slots[0].Obj.Room.Free[0].At = -7
		same(t, "handed in, not changed", fmt.Sprintf("%+v", k), before)
		same(t, "another answer, not changed", fmt.Sprintf("%+v", second), told)
		alike(t, "the same call tells the same", call(), second)
	}
	gone := impl.Stale(k, w.deck)
	same(t, "stale", gone, []int64{3})
	gone[0] = -7
	stale(t, "stale again", k, w.deck, 3)
}
