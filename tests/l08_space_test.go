package tests

import (
	"testing"

	"loop.example/g00740/impl"
)

// hall is a kernel with segments that do not lie at 0, and two spaces for them; each word is 1000 and its place.
type hall struct {
	k impl.Kernel

	root,
	porch, // segment in root, by 0, of 0, 4 pages from 0 on
	box, // box in root, by 0, of 1, 8 pages from 8 on
	low, // segment in box, by 1, of 1, 2 pages from 8 on
	mid, // segment in box, by 1, of 1, 1 page from 10 on
	wide, // segment in box, by 1, of 1, 4 pages from 12 on
	deck, // space in box, by 1, of 1
	desk impl.Handle // space in box, by 1, of 1
}

func newHall(t *testing.T) hall {
	t.Helper()
	out := impl.KernelNew(23)
	w := hall{k: out.Kernel, root: out.Handle}
	w.k, w.porch = made(t, w.k, 0, w.root, impl.KdSeg, 0, 2)
	w.k, w.box = made(t, w.k, 0, w.root, impl.KdBox, 1, 3)
	w.k, w.low = made(t, w.k, 1, w.box, impl.KdSeg, 1, 1)
	w.k, w.mid = made(t, w.k, 1, w.box, impl.KdSeg, 1, 0)
	w.k, w.wide = made(t, w.k, 1, w.box, impl.KdSeg, 1, 2)
	w.k, w.deck = made(t, w.k, 1, w.box, impl.KdSpace, 1, 0)
	w.k, w.desk = made(t, w.k, 1, w.box, impl.KdSpace, 1, 0)
	for i := range w.k.Words {
		w.k.Words[i] = int64(1000 + i)
	}
	return w
}

// maps and fasts ask for what stands in a space.
func maps(t *testing.T, what string, k impl.Kernel, s impl.Handle, want ...impl.Map) {
	t.Helper()
	alike(t, what, impl.Find(k, s).Maps, want)
}

func fasts(t *testing.T, what string, k impl.Kernel, s impl.Handle, want ...impl.Fast) {
	t.Helper()
	alike(t, what, impl.Find(k, s).Fasts, want)
}

func TestSpacesByHand(t *testing.T) {
	w := newHall(t)
	k := done(t, mappedIn(t, w.k, 1, w.deck, 3, w.low, 1))
	maps(t, "mapped in", k, w.deck, impl.Map{Va: 3, Seg: w.low, Page: 1})
	fasts(t, "nothing is fast yet", k, w.deck)
	same(t, "words", k.Words, w.k.Words)

	load := loaded(t, k, 1, w.deck, 3, 1)
	same(t, "the word", load.N, int64(1019)) // page 9, its second word
	same(t, "nothing else is told", load.Handle == impl.Handle{} && len(load.Handles) == 0 && load.Code == impl.OK, true)
	maps(t, "as it was", load.Kernel, w.deck, impl.Map{Va: 3, Seg: w.low, Page: 1})
	fasts(t, "fast", load.Kernel, w.deck, impl.Fast{Va: 3, Seg: w.low, Page: 1, At: 9})
	same(t, "words", load.Kernel.Words, w.k.Words)
	same(t, "the other word", loaded(t, load.Kernel, 1, w.deck, 3, 0).N, int64(1018))

	store := stored(t, k, 1, w.deck, 3, 0, 77)
	same(t, "nothing else is told", store.N == 0 && store.Handle == impl.Handle{} && len(store.Handles) == 0 && store.Code == impl.OK, true)
	fasts(t, "fast", store.Kernel, w.deck, impl.Fast{Va: 3, Seg: w.low, Page: 1, At: 9})
	same(t, "in the segment", peeked(t, store.Kernel, w.low), []int64{1016, 1017, 77, 1019})
	same(t, "loaded", loaded(t, store.Kernel, 1, w.deck, 3, 0).N, int64(77))

	k = done(t, mappedOut(t, store.Kernel, 1, w.deck, 3))
	maps(t, "mapped out", k, w.deck)
	fasts(t, "nor fast", k, w.deck)
	same(t, "the word stays", peeked(t, k, w.low), []int64{1016, 1017, 77, 1019})
	faulted(t, "nothing stands there", loaded(t, k, 1, w.deck, 3, 0), impl.ErrNone)
	faulted(t, "nothing stands there", stored(t, k, 1, w.deck, 3, 0, 5), impl.ErrNone)
	alike(t, "all is as it was, but for the word", mappedOut(t, k, 1, w.deck, 3), impl.KernOut{Kernel: k})
}

// Promise 10: a word that is poked into a segment is loaded where its page stands, one that is stored there is peeked in
// the segment, and no other word is turned; of each page of each segment, and each Va.
func TestWhatStandsInASpaceIsInItsSegment(t *testing.T) {
	w := newHall(t)
	for s, seg := range []impl.Handle{w.low, w.mid, w.wide} {
		o := impl.Find(w.k, seg)
		same(t, "not at 0", o.At > 0, true)
		for page := range sizeOf(o.Order) {
			va := (page*3 + int64(s)) % 8
			k := done(t, mappedIn(t, w.k, 1, w.deck, va, seg, page))
			at := o.At + page
			for i := range int64(2) {
				n := page*2 + i
				poked := done(t, impl.Poke(k, 1, seg, n, 9000+n))
				load := loaded(t, poked, 1, w.deck, va, i)
				same(t, "poked, and loaded", load.N, 9000+n)
				same(t, "the other word of the page", loaded(t, poked, 1, w.deck, va, 1-i).N, 1000+at*2+1-i)
				again := done(t, impl.Poke(load.Kernel, 1, seg, n, 8000+n))
				same(t, "poked behind a load, and loaded", loaded(t, again, 1, w.deck, va, i).N, 8000+n)

				store := stored(t, k, 1, w.deck, va, i, 7000+n)
				words := append([]int64(nil), w.k.Words...)
				words[at*2+i] = 7000 + n
				same(t, "just that word", store.Kernel.Words, words)
				same(t, "stored, and peeked", impl.Peek(store.Kernel, 1, seg, n).N, 7000+n)
				same(t, "stored, and loaded", loaded(t, store.Kernel, 1, w.deck, va, i).N, 7000+n)
				fasts(t, "fast", store.Kernel, w.deck, impl.Fast{Va: va, Seg: seg, Page: page, At: at})
			}
		}
	}
}

// A Fill of the segment is seen in all places, and a store does not reach the pages beside.
func TestAFilledSegmentInASpace(t *testing.T) {
	w := newHall(t)
	k := w.k
	for page := range int64(4) {
		k = done(t, mappedIn(t, k, 1, w.deck, 2*page, w.wide, 3-page))
	}
	k = done(t, impl.Fill(k, 1, w.wide, 5))
	for page := range int64(4) {
		for i := range int64(2) {
			same(t, "filled", loaded(t, k, 1, w.deck, 2*page, i).N, int64(5))
			k = done(t, stored(t, k, 1, w.deck, 2*page, i, 100+2*(3-page)+i))
		}
	}
	same(t, "each word in its place", peeked(t, k, w.wide), []int64{100, 101, 102, 103, 104, 105, 106, 107})
	same(t, "ahead of it", peeked(t, k, w.mid), []int64{1020, 1021})
	same(t, "words behind it", k.Words[32], int64(1032))
}

func TestAPageAtTwoPlacesAndInTwoSpaces(t *testing.T) {
	w := newHall(t)
	k := done(t, mappedIn(t, w.k, 1, w.deck, 1, w.low, 0))
	k = done(t, mappedIn(t, k, 1, w.deck, 6, w.low, 0))
	k = done(t, mappedIn(t, k, 1, w.desk, 1, w.low, 0))
	k = done(t, stored(t, k, 1, w.deck, 6, 1, 31))
	fasts(t, "only there it is fast", k, w.deck, impl.Fast{Va: 6, Seg: w.low, At: 8})
	fasts(t, "not in the other space", k, w.desk)
	same(t, "at the other place", loaded(t, k, 1, w.deck, 1, 1).N, int64(31))
	same(t, "in the other space", loaded(t, k, 1, w.desk, 1, 1).N, int64(31))
	k = done(t, loaded(t, k, 1, w.desk, 1, 0))
	k = done(t, stored(t, k, 1, w.desk, 1, 0, 32))
	same(t, "back in the first one, fast", loaded(t, k, 1, w.deck, 6, 0).N, int64(32))
	same(t, "back in the first one, slow", loaded(t, k, 1, w.deck, 1, 0).N, int64(32))
	k = done(t, mappedOut(t, k, 1, w.deck, 6))
	same(t, "the other place stays", loaded(t, k, 1, w.deck, 1, 0).N, int64(32))
	same(t, "the other space stays", loaded(t, k, 1, w.desk, 1, 0).N, int64(32))
	fasts(t, "the other space's Fast stays", k, w.desk, impl.Fast{Va: 1, Seg: w.low, At: 8})
	k = done(t, mappedIn(t, k, 1, w.desk, 1, w.mid, 0))
	same(t, "another page there", loaded(t, k, 1, w.desk, 1, 0).N, int64(1020))
	same(t, "the first space stays", loaded(t, k, 1, w.deck, 1, 0).N, int64(32))
}

// fastHall is a hall whose deck has a Map and a Fast of the Vas 0, 3, 4 and 7.
func fastHall(t *testing.T) hall {
	t.Helper()
	w := newHall(t)
	for _, one := range w.four() {
		w.k = done(t, mappedIn(t, w.k, 1, w.deck, one.Va, one.Seg, one.Page))
		w.k = done(t, loaded(t, w.k, 1, w.deck, one.Va, 0))
	}
	fasts(t, "all four", w.k, w.deck, w.four()...)
	return w
}

func (w hall) four() []impl.Fast {
	return []impl.Fast{{Va: 0, Seg: w.low, At: 8}, {Va: 3, Seg: w.mid, At: 10}, {Va: 4, Seg: w.wide, Page: 2, At: 14}, {Va: 7, Seg: w.low, Page: 1, At: 9}}
}

// A MapIn where another page stood, or the same one, and a MapOut, takes the Fast of that Va, and no other one's.
func TestTheFastOfThatVaGoesAndNoOther(t *testing.T) {
	w := fastHall(t)
	for place, one := range w.four() {
		var others []impl.Fast
		for other, fast := range w.four() {
			if other != place {
				others = append(others, fast)
			}
		}
		out := done(t, mappedOut(t, w.k, 1, w.deck, one.Va))
		fasts(t, "mapped out", out, w.deck, others...)
		faulted(t, "nothing is there", loaded(t, out, 1, w.deck, one.Va, 0), impl.ErrNone)
		faulted(t, "nothing is there", stored(t, out, 1, w.deck, one.Va, 0, 1), impl.ErrNone)

		in := done(t, mappedIn(t, w.k, 1, w.deck, one.Va, w.wide, 3))
		fasts(t, "mapped in, another page", in, w.deck, others...)
		load := loaded(t, in, 1, w.deck, one.Va, 1)
		same(t, "its word", load.N, int64(1031))
		moved := w.four()
		moved[place] = impl.Fast{Va: one.Va, Seg: w.wide, Page: 3, At: 15}
		fasts(t, "fast again, in its place", load.Kernel, w.deck, moved...)

		again := done(t, mappedIn(t, w.k, 1, w.deck, one.Va, one.Seg, one.Page))
		fasts(t, "mapped in, the same page", again, w.deck, others...)
		alike(t, "loaded, as it was", loaded(t, again, 1, w.deck, one.Va, 0).Kernel, w.k)
		for _, other := range others {
			same(t, "the others", loaded(t, in, 1, w.deck, other.Va, 0).N, 1000+other.At*2)
		}
	}
	for _, va := range []int64{1, 2, 5, 6} {
		k := done(t, mappedIn(t, w.k, 1, w.deck, va, w.mid, 0))
		fasts(t, "mapped in at a Va of its own", k, w.deck, w.four()...)
		alike(t, "mapped out where nothing stood", mappedOut(t, w.k, 1, w.deck, va), impl.KernOut{Kernel: w.k})
	}
}

// Maps and Fasts rise by Va, in whatever order they come.
func TestMapsAndFastsRise(t *testing.T) {
	w := newHall(t)
	for _, order := range [][]int64{
		{0, 1, 2, 3, 4, 5, 6, 7}, {7, 6, 5, 4, 3, 2, 1, 0}, {3, 0, 7, 4, 1, 6, 2, 5}, {4, 4, 0, 0, 7, 4}, {5, 1}, {7, 0, 7},
	} {
		k := w.k
		for _, va := range order {
			k = done(t, mappedIn(t, k, 1, w.deck, va, w.wide, va%4))
		}
		var slow []impl.Map
		var quick []impl.Fast
		for va := range int64(8) {
			for _, one := range order {
				if one == va {
					slow = append(slow, impl.Map{Va: va, Seg: w.wide, Page: va % 4})
					quick = append(quick, impl.Fast{Va: va, Seg: w.wide, Page: va % 4, At: 12 + va%4})
					break
				}
			}
		}
		maps(t, "Maps rise", k, w.deck, slow...)
		fasts(t, "no Fasts", k, w.deck)
		for n := len(order) - 1; n >= 0; n -= 2 { // the others become fast by a store
			k = done(t, loaded(t, k, 1, w.deck, order[n], 0))
		}
		for _, va := range order {
			k = done(t, stored(t, k, 1, w.deck, va, 0, va))
		}
		maps(t, "Maps rise still", k, w.deck, slow...)
		fasts(t, "Fasts rise", k, w.deck, quick...)
		for _, va := range order {
			k = done(t, mappedOut(t, k, 1, w.deck, va))
		}
		maps(t, "none", k, w.deck)
		fasts(t, "none", k, w.deck)
	}
}

// A Load, and a Store, puts a Fast; a second one of either leaves all as it is.
func TestAFastIsPutOnce(t *testing.T) {
	w := newHall(t)
	for _, seg := range []impl.Handle{w.low, w.mid, w.wide} {
		o := impl.Find(w.k, seg)
		for page := range sizeOf(o.Order) {
			k := done(t, mappedIn(t, w.k, 1, w.deck, 5, seg, page))
			want := impl.Fast{Va: 5, Seg: seg, Page: page, At: o.At + page}
			word := 1000 + want.At*2
			load := loaded(t, k, 1, w.deck, 5, 0)
			fasts(t, "by a load", load.Kernel, w.deck, want)
			store := stored(t, k, 1, w.deck, 5, 0, word)
			fasts(t, "by a store", store.Kernel, w.deck, want)
			alike(t, "both the same", store.Kernel, load.Kernel)
			alike(t, "a second load", loaded(t, load.Kernel, 1, w.deck, 5, 0), impl.KernOut{Kernel: load.Kernel, N: word})
			alike(t, "a second store", stored(t, load.Kernel, 1, w.deck, 5, 0, word), impl.KernOut{Kernel: load.Kernel})
			fasts(t, "what was handed in has none", k, w.deck)
		}
	}
}

// A space that is not in the box of its segment, nor by the same label: what stands there is the segment's.
func TestSegmentsOfOtherBoxes(t *testing.T) {
	w := newHall(t)
	k, far := made(t, w.k, 0, w.root, impl.KdBox, 3, 3)
	k, seg := made(t, k, 3, far, impl.KdSeg, 3, 2)
	k, space := made(t, k, 3, far, impl.KdSpace, 3, 0)
	k = done(t, mappedIn(t, k, 3, space, 2, w.mid, 0))
	k = done(t, mappedIn(t, k, 3, space, 4, seg, 3))
	k = done(t, mappedIn(t, k, 3, space, 5, w.porch, 3))
	same(t, "a segment of a lesser label", loaded(t, k, 3, space, 2, 1).N, int64(1021))
	same(t, "a segment of the least label", loaded(t, k, 3, space, 5, 1).N, int64(1007))
	faulted(t, "who may look there may not write there", stored(t, k, 3, space, 2, 1, 9), impl.ErrNone)
	k = done(t, stored(t, k, 3, space, 4, 1, 9))
	at := impl.Find(k, seg).At
	same(t, "where the segment lies", at > 8, true)
	fasts(t, "fast", k, space, impl.Fast{Va: 4, Seg: seg, Page: 3, At: at + 3})
	same(t, "its last word", peeked(t, k, seg), []int64{0, 0, 0, 0, 0, 0, 0, 9})
}

// A segment of all pages, each of which may stand somewhere.
func TestAllPagesOfASegment(t *testing.T) {
	out := impl.KernelNew(2)
	k, space := made(t, out.Kernel, 0, out.Handle, impl.KdSpace, 0, 0)
	k, seg := made(t, k, 0, out.Handle, impl.KdSeg, 0, 5)
	for page := range int64(32) {
		k = done(t, mappedIn(t, k, 0, space, page%8, seg, page))
		for i := range int64(2) {
			k = done(t, stored(t, k, 0, space, page%8, i, 500+page*2+i))
		}
	}
	for i, word := range k.Words {
		same(t, "each word", word, int64(500+i))
	}
}
