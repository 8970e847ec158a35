package tests

import (
	"fmt"
	"strings"
	"testing"

	"loop.example/g00740/impl"
)

// smallRun is a run of two labels: 0 makes a box of 1, in which 1 makes a segment and writes; 0 may not look there.
func smallRun(t *testing.T) ([]impl.Call, impl.RunOut) {
	t.Helper()
	l := []impl.Call{
		{Word: impl.WdMake, X: impl.KdBox, Y: 1, Z: 2},
		{Who: 1, Word: impl.WdMake, A: impl.Ref{N: 1}, X: impl.KdSeg, Y: 1},
		{Who: 1, Word: impl.WdPoke, A: impl.Ref{Label: 1}, X: 1, Y: 300},
		{Word: impl.WdKids},
		{Word: impl.WdPeek, A: impl.Ref{Label: 1}, X: 1},
		{Who: 1, Word: impl.WdPeek, A: impl.Ref{Label: 1}, X: 1},
		{Who: 2, Word: impl.WdRoom},
	}
	return l, ran(t, 5, l)
}

// What is kept of a small run for each label: the calls of 0 for all, those of 1 for who has its bit, that of 2 likewise.
func TestPurgeAndKeptByHand(t *testing.T) {
	l, run := smallRun(t)
	box, seg := impl.Handle{Id: 38661}, impl.Handle{By: 1, Id: 28887}
	replies := []impl.Reply{
		{Handle: box}, {Handle: seg}, {}, {Handles: []impl.Handle{box}}, {Code: impl.ErrNone}, {N: 300}, {N: 28},
	}
	alike(t, "replies", run.Replies, replies)
	places := [][]int{{0, 3, 4}, {0, 1, 2, 3, 4, 5}, {0, 3, 4, 6}, {0, 1, 2, 3, 4, 5, 6}}
	for label := range int64(16) {
		var calls []impl.Call
		var told []impl.Reply
		for _, place := range places[label%4] {
			calls = append(calls, l[place])
			told = append(told, replies[place])
		}
		alike(t, "calls", purged(t, l, label), calls)
		alike(t, "replies", kept(t, l, run.Replies, label), told)
	}
}

// What each label may see of it, byte by byte.
func TestSeenOfASmallRunByHand(t *testing.T) {
	_, run := smallRun(t)
	k := run.Machine.Kernel
	root, box, seg := "\xd6\xaf\x06", "\x8a\xdc\x04", "\xae\xc3\x03"
	none := "\x00\x00"
	zero := "\x04\x04" + // two names, two slots
		"\x00\x02" + root + "\x02\x00\x0a\x00" + "\x00\x00\x00" + // Gen 0, Live, a box of 0, of the order 5, at 0, in none
		"\x06" + "\x08\x04" + "\x10\x06" + "\x20\x08" + // free are 4 pages from 4 on, 8 from 8, 16 from 16
		"\x02" + "\x00" + box + "\x00" + // the box is in it
		"\x00\x02" + box + "\x02\x02\x04\x00" + "\x00" + root + "\x00" // a box of 1, of the order 2, in the root
	inBox := "\x04" + "\x02\x00" + "\x04\x02" + // free are the page 1, and two from 2 on
		"\x02" + "\x02" + seg + "\x00" // the segment is in it
	one := "\x02\x02" +
		"\x00\x02" + seg + "\x04\x02\x00\x00" + "\x00" + box + "\x00" + // a segment of 1, of the order 0, at 0, in the box
		"\x00" + "\xd8\x04" // its words are 0 and 300
	for label := range int64(16) {
		want := zero
		if label%2 == 1 {
			want += inBox + one
		}
		for other := int64(2); other < 16; other++ {
			if label&other == other {
				want += none
			}
		}
		same(t, fmt.Sprint("seen by ", label), seen(t, k, label), want)
	}
	alike(t, "live", lived(t, k), []impl.Handle{{Id: 52203}, {Id: 38661}, {By: 1, Id: 28887}})
	alike(t, "the root", spread(t, k, impl.Handle{Id: 52203}), append([]int64{1, 1, 1, 1}, make([]int64, 28)...))
	alike(t, "the box", spread(t, k, impl.Handle{Id: 38661}), []int64{1, 0, 0, 0})
	alike(t, "the segment is no box", spread(t, k, impl.Handle{By: 1, Id: 28887}), []int64(nil))
}

// piece is what is told of a thing: to whoever its By flows to, and to whoever its Of flows to, too.
type piece struct {
	by, of int64
	names  []int64
	inside []int64
}

// pieces puts together what a label may see: head is what stands ahead of the slots of each arena that is not empty.
func pieces(label int64, head map[int64][]int64, all []piece) string {
	var out strings.Builder
	for by := range int64(16) {
		if !flowsByLetters(by, label) {
			continue
		}
		if head[by] == nil {
			out.WriteString(bytesByWords(0, 0))
			continue
		}
		out.WriteString(bytesByWords(head[by]...))
		for _, one := range all {
			if one.by != by {
				continue
			}
			out.WriteString(bytesByWords(one.names...))
			if flowsByLetters(one.of, label) {
				out.WriteString(bytesByWords(one.inside...))
			}
		}
	}
	return out.String()
}

// Things whose By flows to a label, and whose Of does not: that they are there is told, what is in them is not.
func TestSeenOfATownByHand(t *testing.T) {
	w := newTown(t)
	root, yard, plot, map0, shed := w.root.Id, w.yard.Id, w.plot.Id, w.map0.Id, w.shed.Id
	well, map1, barn, safe, loft, nest := w.well.Id, w.map1.Id, w.barn.Id, w.safe.Id, w.loft.Id, w.nest.Id
	head := map[int64][]int64{0: {5, 5}, 1: {4, 4}, 3: {2, 2}}
	all := []piece{
		{0, 0, []int64{0, 1, root, 1, 0, 5, 0, 0, 0, 0}, []int64{1, 16, 4, 4, 0, yard, 0, 0, plot, 0, 0, map0, 0, 0, shed, 0}},
		{0, 1, []int64{0, 1, yard, 1, 1, 3, 0, 0, root, 0}, []int64{1, 3, 0, 4, 1, well, 0, 1, map1, 0, 1, barn, 0, 1, safe, 0}},
		{0, 0, []int64{0, 1, plot, 2, 0, 2, 8, 0, root, 0}, []int64{1016, 1017, 1018, 1019, 1020, 1021, 1022, 1023}},
		{0, 0, []int64{0, 1, map0, 3, 0, 0, 0, 0, root, 0}, []int64{0, 0}},
		{0, 0, []int64{0, 1, shed, 1, 0, 2, 12, 0, root, 0}, []int64{1, 0, 2, 0}},
		{1, 1, []int64{0, 1, well, 2, 1, 1, 0, 0, yard, 0}, []int64{1000, 1001, 1002, 1003}},
		{1, 3, []int64{0, 1, map1, 3, 3, 0, 0, 0, yard, 0}, []int64{3, 0, 1, well, 0, 1, 3, 3, loft, 0, 0, 7, -5, 0, 0, 31, 2, 0, 1, well, 0, 1, 1, 7, -5, 0, 0, 31, 31}},
		{1, 3, []int64{0, 1, barn, 1, 3, 2, 4, 0, yard, 0}, []int64{1, 2, 1, 2, 3, loft, 0, 3, nest, 0}},
		{1, 15, []int64{0, 1, safe, 2, 15, 0, 2, 0, yard, 0}, []int64{1004, 1005}},
		{3, 7, []int64{0, 1, loft, 2, 7, 0, 4, 1, barn, 0}, []int64{1008, 1009}},
		{3, 3, []int64{0, 1, nest, 1, 3, 0, 5, 1, barn, 0}, []int64{1, 0, 0, 0}},
	}
	for label := range int64(16) {
		same(t, fmt.Sprint("seen by ", label), seen(t, w.k, label), pieces(label, head, all))
	}
	for place, of := range map[int]int64{16: 0, 23: 0, 0: 1, 3: 1, 4: 15, 8: 7, 6: -1, 10: -1, 40: -1, 63: -1} {
		k := copyKernel(w.k)
		k.Words[place] = 7
		for label := range int64(16) {
			sees := of >= 0 && flowsByLetters(of, label)
			same(t, fmt.Sprint("word ", place, " turned, seen by ", label), seen(t, k, label) != seen(t, w.k, label), sees)
		}
	}
}

func TestSeenOfASpaceByHand(t *testing.T) {
	w := fastHall(t)
	w.k = impl.Drop(w.k, 1, w.mid).Kernel // its Fast is stale, and is told still
	space := []int64{
		0, 1, w.deck.Id, 3, 1, 0, 0, 0, w.box.Id, 0,
		4, 0, 1, w.low.Id, 0, 0, 3, 1, w.mid.Id, 0, 0, 4, 1, w.wide.Id, 0, 2, 7, 1, w.low.Id, 0, 1,
		4, 0, 1, w.low.Id, 0, 0, 8, 3, 1, w.mid.Id, 0, 0, 10, 4, 1, w.wide.Id, 0, 2, 14, 7, 1, w.low.Id, 0, 1, 9,
	}
	same(t, "Maps, and Fasts with where they are", strings.Contains(seen(t, w.k, 1), bytesByWords(space...)), true)
	same(t, "not even its name, for 0", strings.Contains(seen(t, w.k, 0), bytesByWords(w.deck.Id)), false)
	k := loaded(t, w.k, 1, w.deck, 3, 0).Kernel
	same(t, "a Fast that goes is seen", seen(t, k, 1) == seen(t, w.k, 1), false)
	same(t, "but not by others", seen(t, k, 14), seen(t, w.k, 14))
	odd := copyKernel(w.k)
	o := &slotOf(odd, w.deck).Obj
	for i := range o.Maps {
		seg := impl.Handle{By: wideNumbers[i], Id: wideNumbers[i+1], Gen: wideNumbers[len(wideNumbers)-1-i]}
		o.Maps[i].Seg, o.Fasts[i].Seg = seg, seg
	}
	same(t, "right", impl.KernelRight(odd), true)
	seen(t, odd, 1)
}

// Boxes that are empty, half full and full, and one that is empty again.
func TestSeenAndSpreadOfRooms(t *testing.T) {
	for order := range int64(6) {
		out := impl.KernelNew(40)
		k, box := made(t, out.Kernel, 0, out.Handle, impl.KdBox, 4, order)
		pages := sizeOf(order)
		head := []int64{0, 1, box.Id, 1, 4, order, 0, 0, out.Handle.Id, 0}
		has := func(what string, k impl.Kernel, inside ...int64) {
			t.Helper()
			text := seen(t, k, 4)
			want := bytesByWords(append(append([]int64{}, head...), inside...)...)
			if !strings.Contains(text, want) {
				t.Errorf("%s: %q is not in %q", what, want, text)
			}
			same(t, what+": not for 0", strings.HasSuffix(seen(t, k, 0), bytesByWords(head...)), true)
		}
		has("empty", k, 1, 0, order, 0)
		alike(t, "empty", spread(t, k, box), make([]int64, pages))
		full, whole := made(t, k, 4, box, impl.KdSeg, 4, order)
		has("full", full, 0, 1, 4, whole.Id, 0)
		alike(t, "full", spread(t, full, box), times(pages, 1))
		again := impl.Drop(full, 4, whole).Kernel
		has("empty again", again, 1, 0, order, 0)
		alike(t, "empty again", spread(t, again, box), make([]int64, pages))
		if order == 0 {
			continue
		}
		half, space := made(t, again, 4, box, impl.KdSpace, 4, 0)
		half, seg := made(t, half, 4, box, impl.KdBox, 4, order-1)
		has("half full", half, 1, pages/2, order-1, 2, 4, space.Id, 1, 4, seg.Id, 0)
		alike(t, "half full", spread(t, half, box), append(times(pages/2, 2), make([]int64, pages/2)...))
	}
}

// Segments of each order, in the root and deep: all their words, for whoever their Of flows to, and no other one.
func TestSeenOfSegments(t *testing.T) {
	for order := range int64(6) {
		for _, deep := range []bool{false, true} {
			k, seg := pairOf(t, order, deep)
			for i := range k.Words {
				k.Words[i] = int64(65535 - i*7)
			}
			from, to := spanOf(k, seg)
			o := impl.Find(k, seg)
			want := append([]int64{seg.Gen, 1, seg.Id, 2, o.Of, order, o.At, o.Up.By, o.Up.Id, o.Up.Gen}, k.Words[from:to]...)
			same(t, "how many", to-from, 2*sizeOf(order))
			same(t, "its words", strings.Contains(seen(t, k, o.Of), bytesByWords(want...)), true)
			for i := range k.Words {
				other := copyKernel(k)
				other.Words[i] = 7
				for _, label := range []int64{0, 2, 6, 9} {
					same(t, "a word that is turned", seen(t, other, label) != seen(t, k, label), wordSeen(k, label, int64(i)))
				}
			}
		}
	}
}

// wordSeen tells whether the word is one of a segment whose Of flows to the label.
func wordSeen(k impl.Kernel, label int64, i int64) bool {
	for _, seg := range segsOf(k) {
		from, to := spanOf(k, seg)
		if i >= from && i < to && flowsByLetters(impl.Find(k, seg).Of, label) {
			return true
		}
	}
	return false
}

// Slots that are given back are told with each Gen, till they are used up.
func TestSeenOfSlotsThatAreGivenBack(t *testing.T) {
	b := newBench(t, 5)
	b.makes(0, impl.Ref{}, impl.KdBox, 2, 1)
	room := bytesByWords(0, 1, b.m.Told[0][1].Id, 1, 2, 1, 0, 0, b.m.Told[0][0].Id, 0, 1, 0, 1, 0) // the box, and what is in it
	ends := func(what string, numbers ...int64) {
		t.Helper()
		same(t, what, strings.HasSuffix(seen(t, b.m.Kernel, 2), room+bytesByWords(numbers...)), true)
	}
	key := int64(5*31 + 2*977 + 7)
	ends("nothing yet", 0, 0)
	for gen := range int64(3) {
		ref := b.makes(2, impl.Ref{N: 1}, impl.KdSpace, 6, 0)
		id := permuteByWords(key, gen)
		same(t, "its name", b.name(ref), impl.Handle{By: 2, Id: id, Gen: gen})
		all := seen(t, b.m.Kernel, 2)
		want := bytesByWords(gen+1, 1, gen, 1, id, 3, 6, 0, 0, 0, b.m.Told[0][1].Id, 0)
		same(t, "Live, of the next Gen", strings.HasSuffix(all, want), true)
		same(t, "what is in it, for 6", strings.HasSuffix(seen(t, b.m.Kernel, 6), want+bytesByWords(0, 0, 0, 0, 0, 0)), true)
		alike(t, "live", lived(t, b.m.Kernel), []impl.Handle{b.m.Told[0][0], b.m.Told[0][1], b.name(ref)})
		b.is("drop", impl.Call{Who: 2, Word: impl.WdDrop, A: ref}, impl.Reply{})
		ends("given back", gen+1, 1, gen+1, 0)
		alike(t, "live", lived(t, b.m.Kernel), []impl.Handle{b.m.Told[0][0], b.m.Told[0][1]})
	}
	next := b.makes(2, impl.Ref{N: 1}, impl.KdSpace, 6, 0)
	id := permuteByWords(key, 3)
	same(t, "in another slot", b.name(next), impl.Handle{By: 2, Id: id})
	want := bytesByWords(4, 2, 3, 0, 0, 1, id, 3, 6, 0, 0, 0, b.m.Told[0][1].Id, 0)
	same(t, "one that is used up, and one", strings.HasSuffix(seen(t, b.m.Kernel, 2), want), true)
}

// What is live stands by labels, and by slots, not in the order in which it was made.
func TestLiveByHand(t *testing.T) {
	w := newTown(t)
	alike(t, "the town", lived(t, w.k), []impl.Handle{w.root, w.yard, w.plot, w.map0, w.shed, w.well, w.map1, w.barn, w.safe, w.loft, w.nest})
	k := impl.Drop(w.k, 0, w.plot).Kernel
	alike(t, "one less", lived(t, k), []impl.Handle{w.root, w.yard, w.map0, w.shed, w.well, w.map1, w.barn, w.safe, w.loft, w.nest})
	k, late := made(t, k, 0, w.shed, impl.KdSpace, 9, 0)
	k, last := made(t, k, 0, w.shed, impl.KdSeg, 9, 0)
	alike(t, "in the first slot", lived(t, k), []impl.Handle{w.root, w.yard, late, w.map0, w.shed, last, w.well, w.map1, w.barn, w.safe, w.loft, w.nest})
	k = impl.Drop(k, 0, w.yard).Kernel
	alike(t, "with all that was in it", lived(t, k), []impl.Handle{w.root, late, w.map0, w.shed, last})
	fresh := impl.KernelNew(5)
	alike(t, "the root alone", lived(t, fresh.Kernel), []impl.Handle{fresh.Handle})
}

// Whose each page of each box is: boxes, segments and spaces count among the Kids, spaces have no page.
func TestSpreadByHand(t *testing.T) {
	w := newTown(t)
	var root []int64
	for _, one := range []struct{ many, whose int64 }{{8, 1}, {4, 2}, {4, 4}, {16, 0}} {
		root = append(root, times(one.many, one.whose)...)
	}
	for _, one := range []struct {
		what string
		h    impl.Handle
		want []int64
	}{
		{"root", w.root, root},
		{"yard", w.yard, []int64{1, 1, 4, 0, 3, 3, 3, 3}},
		{"barn", w.barn, []int64{1, 2, 0, 0}},
		{"shed", w.shed, []int64{0, 0, 0, 0}},
		{"nest", w.nest, []int64{0}},
		{"a segment", w.plot, nil}, {"a space", w.map1, nil}, {"the safe", w.safe, nil},
	} {
		alike(t, one.what, spread(t, w.k, one.h), one.want)
	}
	less := impl.Drop(w.k, 1, w.well).Kernel
	alike(t, "one less: the others' places", spread(t, less, w.yard), []int64{0, 0, 3, 0, 2, 2, 2, 2})
	less, seg := made(t, less, 1, w.yard, impl.KdSeg, 1, 1)
	alike(t, "where it was, but the last of the Kids", spread(t, less, w.yard), []int64{4, 4, 3, 0, 2, 2, 2, 2})
	alike(t, "no box", spread(t, less, seg), []int64(nil))
	turned := copyKernel(w.k)
	kids := slotOf(turned, w.yard).Obj.Kids
	kids[0], kids[3] = kids[3], kids[0]
	alike(t, "Kids in another order", spread(t, turned, w.yard), []int64{4, 4, 1, 0, 3, 3, 3, 3})
}
