package tests

import (
	"math"
	"slices"
	"testing"

	"loop.example/g00740/impl"
)

// noOrders are numbers that are no orders; shifts by some of them would wrap or panic.
var noOrders = []int64{-1, -2, -5, -64, 6, 7, 8, 63, 64, 65, 256, 1 << 32, math.MaxInt64, math.MinInt64, math.MinInt64 + 3}

// sizeOf is how many pages a block of that order has, told without a shift.
func sizeOf(order int64) int64 {
	return []int64{1, 2, 4, 8, 16, 32}[order]
}

// pageSet tells of each page whether it is free: a Buddy that knows of no blocks.
type pageSet []bool

func setOf(order int64, bits uint64) pageSet {
	set := make(pageSet, sizeOf(order))
	for i := range set {
		set[i] = bits>>i&1 == 1
	}
	return set
}

func (set pageSet) pages() []int64 {
	var out []int64
	for i, is := range set {
		if is {
			out = append(out, int64(i))
		}
	}
	return out
}

func (set pageSet) allFree(at int64, size int64) bool {
	return !slices.Contains(set[at:at+size], false)
}

func (set pageSet) fill(at int64, size int64, is bool) pageSet {
	out := slices.Clone(set)
	for i := at; i < at+size; i++ {
		out[i] = is
	}
	return out
}

// blocks are the greatest aligned ones that are all free, from the left.
func (set pageSet) blocks() []impl.Block {
	var out []impl.Block
	for at := int64(0); at < int64(len(set)); {
		size := int64(1)
		if !set[at] {
			at++
			continue
		}
		order := int64(0)
		for size*2 <= int64(len(set)) && at%(size*2) == 0 && set.allFree(at, size*2) {
			size *= 2
			order++
		}
		out = append(out, impl.Block{At: at, Order: order})
		at += size
	}
	return out
}

func (set pageSet) buddy(order int64) impl.Buddy {
	return impl.Buddy{Order: order, Free: set.blocks()}
}

// someAligned tells whether some aligned block of that size is all free.
func (set pageSet) someAligned(size int64) bool {
	for at := int64(0); at+size <= int64(len(set)); at += size {
		if set.allFree(at, size) {
			return true
		}
	}
	return false
}

// taken is where a block of that order is had: in the first one of the least greatest free ones that hold it.
func (set pageSet) taken(order int64) (int64, bool) {
	best := impl.Block{Order: 99}
	for _, one := range set.blocks() {
		if one.Order >= order && one.Order < best.Order {
			best = one
		}
	}
	return best.At, best.Order < 99
}

// eachSet goes through every set of pages of the orders 0 to 3, some thousand ones of order 4, and of order 5.
func eachSet(do func(order int64, set pageSet)) {
	for order := int64(0); order <= 3; order++ {
		for bits := uint64(0); bits < 1<<sizeOf(order); bits++ {
			do(order, setOf(order, bits))
		}
	}
	state := uint64(88172645463325252)
	for range 2000 {
		state ^= state << 13
		state ^= state >> 7
		state ^= state << 17
		do(4, setOf(4, state))
		do(5, setOf(5, state))
		do(5, setOf(5, state|state>>20)) // with greater blocks among them
		do(5, setOf(5, state&(state>>20)))
	}
	for order := int64(4); order <= 5; order++ {
		do(order, setOf(order, 0))
		do(order, setOf(order, math.MaxUint64))
		for page := range sizeOf(order) {
			do(order, setOf(order, 1<<page))
			do(order, setOf(order, ^(1<<page)))
		}
	}
}

func sameBuddy(t *testing.T, what string, got impl.BuddyOut, want impl.BuddyOut) {
	t.Helper()
	if got.Buddy.Order != want.Buddy.Order || !slices.Equal(got.Buddy.Free, want.Buddy.Free) || got.At != want.At || got.Code != want.Code {
		t.Errorf("%s: got %+v, want %+v", what, got, want)
	}
}

func TestBuddyNew(t *testing.T) {
	same(t, "MaxOrder", impl.MaxOrder, 5)
	for order := int64(0); order <= 5; order++ {
		out := impl.BuddyNew(order)
		sameBuddy(t, "new", out, impl.BuddyOut{Buddy: impl.Buddy{Order: order, Free: []impl.Block{{Order: order}}}})
		same(t, "right", impl.BuddyRight(out.Buddy), true)
		same(t, "pages", len(impl.FreePages(out.Buddy)), int(sizeOf(order)))
	}
	for _, no := range noOrders {
		sameBuddy(t, "no order", impl.BuddyNew(no), impl.BuddyOut{Code: impl.ErrForm})
	}
}

// Promise 5: a block is had just if some aligned one of its order is all free; it is the first one of the least order.
func TestTakenJustIfAnAlignedOneIsFree(t *testing.T) {
	eachSet(func(order int64, set pageSet) {
		b := set.buddy(order)
		for ask := int64(0); ask <= impl.MaxOrder; ask++ {
			can := set.someAligned(sizeOf(ask))
			at, is := set.taken(ask)
			same(t, "the two ways of telling it", is, can)
			same(t, "FitsIn", impl.FitsIn(b, ask), can)
			out := impl.BuddyTake(b, ask)
			if !can {
				sameBuddy(t, "full", out, impl.BuddyOut{Code: impl.ErrFull})
				continue
			}
			rest := set.fill(at, sizeOf(ask), false)
			sameBuddy(t, "take", out, impl.BuddyOut{Buddy: rest.buddy(order), At: at})
			same(t, "right", impl.BuddyRight(out.Buddy), true)
			same(t, "pages", impl.FreePages(out.Buddy), rest.pages())
			sameBuddy(t, "given back", impl.BuddyGive(out.Buddy, at, ask), impl.BuddyOut{Buddy: b})
		}
		sameBuddy(t, "handed in, not changed", impl.BuddyOut{Buddy: b}, impl.BuddyOut{Buddy: set.buddy(order)})
	})
}

func TestTakeByHand(t *testing.T) {
	for _, one := range []struct {
		b     impl.Buddy
		order int64
		want  impl.BuddyOut
	}{
		{impl.Buddy{Free: []impl.Block{{}}}, 0, impl.BuddyOut{}},
		{impl.Buddy{}, 0, impl.BuddyOut{Code: impl.ErrFull}},
		{impl.Buddy{Free: []impl.Block{{}}}, 1, impl.BuddyOut{Code: impl.ErrFull}},
		{impl.Buddy{Order: 5, Free: []impl.Block{{Order: 5}}}, 5, impl.BuddyOut{Buddy: impl.Buddy{Order: 5}}},
		{impl.Buddy{Order: 5, Free: []impl.Block{{Order: 5}}}, 0, impl.BuddyOut{Buddy: impl.Buddy{Order: 5, Free: []impl.Block{{At: 1}, {At: 2, Order: 1}, {At: 4, Order: 2}, {At: 8, Order: 3}, {At: 16, Order: 4}}}}},
		{impl.Buddy{Order: 5, Free: []impl.Block{{Order: 5}}}, 3, impl.BuddyOut{Buddy: impl.Buddy{Order: 5, Free: []impl.Block{{At: 8, Order: 3}, {At: 16, Order: 4}}}}},
		{impl.Buddy{Order: 5, Free: []impl.Block{{At: 31}}}, 0, impl.BuddyOut{Buddy: impl.Buddy{Order: 5}, At: 31}},
		// The least order goes ahead of the first place, and of that order the first place is taken.
		{impl.Buddy{Order: 4, Free: []impl.Block{{Order: 2}, {At: 6, Order: 1}, {At: 10, Order: 1}}}, 0, impl.BuddyOut{Buddy: impl.Buddy{Order: 4, Free: []impl.Block{{Order: 2}, {At: 7}, {At: 10, Order: 1}}}, At: 6}},
		{impl.Buddy{Order: 4, Free: []impl.Block{{Order: 2}, {At: 6, Order: 1}, {At: 9}, {At: 14}}}, 0, impl.BuddyOut{Buddy: impl.Buddy{Order: 4, Free: []impl.Block{{Order: 2}, {At: 6, Order: 1}, {At: 14}}}, At: 9}},
		{impl.Buddy{Order: 4, Free: []impl.Block{{At: 3}, {At: 4, Order: 2}, {At: 12, Order: 2}}}, 1, impl.BuddyOut{Buddy: impl.Buddy{Order: 4, Free: []impl.Block{{At: 3}, {At: 6, Order: 1}, {At: 12, Order: 2}}}, At: 4}},
		{impl.Buddy{Order: 2, Free: []impl.Block{{At: 1}, {At: 2}}}, 1, impl.BuddyOut{Code: impl.ErrFull}},
	} {
		sameBuddy(t, "take", impl.BuddyTake(one.b, one.order), one.want)
	}
}

// Promise 5: whatever is taken is given back in whatever order, and then all is as it was.
func TestGivenBackInAnyOrder(t *testing.T) {
	state := uint64(2463534242)
	draw := func(many int) int {
		state ^= state << 13
		state ^= state >> 7
		state ^= state << 17
		return int(state % uint64(many))
	}
	eachSet(func(order int64, set pageSet) {
		first := set.buddy(order)
		now := first
		var had []impl.Block
		for range 12 {
			ask := int64(draw(int(order) + 1))
			out := impl.BuddyTake(now, ask)
			if out.Code == impl.OK {
				had = append(had, impl.Block{At: out.At, Order: ask})
				now = out.Buddy
			}
		}
		for len(had) > 0 {
			i := draw(len(had))
			out := impl.BuddyGive(now, had[i].At, had[i].Order)
			same(t, "code", out.Code, int64(impl.OK))
			same(t, "right", impl.BuddyRight(out.Buddy), true)
			now = out.Buddy
			had = slices.Delete(had, i, i+1)
		}
		sameBuddy(t, "as it was", impl.BuddyOut{Buddy: now}, impl.BuddyOut{Buddy: first})
	})
}

// Every block that is all taken can be given back, whoever took it; every other one is refused.
func TestGiveOfEveryBlock(t *testing.T) {
	eachSet(func(order int64, set pageSet) {
		if order == 5 && set[3] != set[20] {
			return // a part of them will do here
		}
		b := set.buddy(order)
		for with := int64(0); with <= impl.MaxOrder; with++ {
			for at := int64(-3); at <= sizeOf(order)+3; at++ {
				out := impl.BuddyGive(b, at, with)
				size := sizeOf(with)
				if at < 0 || at+size > int64(len(set)) || at%size != 0 {
					sameBuddy(t, "no aligned block in it", out, impl.BuddyOut{Code: impl.ErrForm})
					continue
				}
				if slices.Contains(set[at:at+size], true) {
					sameBuddy(t, "a page is free", out, impl.BuddyOut{Code: impl.ErrState})
					continue
				}
				more := set.fill(at, size, true)
				sameBuddy(t, "give", out, impl.BuddyOut{Buddy: more.buddy(order)})
				same(t, "pages", impl.FreePages(out.Buddy), more.pages())
			}
		}
		sameBuddy(t, "handed in, not changed", impl.BuddyOut{Buddy: b}, impl.BuddyOut{Buddy: set.buddy(order)})
	})
}

func TestFellowsComeTogether(t *testing.T) {
	for order := int64(0); order <= 5; order++ {
		for page := range sizeOf(order) {
			b := setOf(order, ^(1 << page)).buddy(order)
			same(t, "a block of each order", len(b.Free), int(order))
			sameBuddy(t, "all together", impl.BuddyGive(b, page, 0), impl.BuddyNew(order))
		}
	}
	apart := impl.Buddy{Order: 3, Free: []impl.Block{{At: 1}, {At: 4, Order: 2}}}
	sameBuddy(t, "of another order", impl.BuddyGive(apart, 2, 1), impl.BuddyOut{Buddy: impl.Buddy{Order: 3, Free: []impl.Block{{At: 1}, {At: 2, Order: 1}, {At: 4, Order: 2}}}})
	sameBuddy(t, "beside, but no fellow", impl.BuddyGive(impl.Buddy{Order: 2, Free: []impl.Block{{At: 1}}}, 2, 0), impl.BuddyOut{Buddy: impl.Buddy{Order: 2, Free: []impl.Block{{At: 1}, {At: 2}}}})
}

// Promise 5: FreePages and BuddyOf undo each other.
func TestFreePagesAndBuddyOf(t *testing.T) {
	eachSet(func(order int64, set pageSet) {
		pages := set.pages()
		out := impl.BuddyOf(order, pages)
		sameBuddy(t, "of", out, impl.BuddyOut{Buddy: set.buddy(order)})
		same(t, "right", impl.BuddyRight(out.Buddy), true)
		same(t, "pages", impl.FreePages(out.Buddy), set.pages())
		same(t, "handed in, not changed", pages, set.pages())
	})
	sameBuddy(t, "none", impl.BuddyOf(5, nil), impl.BuddyOut{Buddy: impl.Buddy{Order: 5}})
	sameBuddy(t, "an empty list", impl.BuddyOf(5, []int64{}), impl.BuddyOut{Buddy: impl.Buddy{Order: 5}})
	same(t, "nothing free", len(impl.FreePages(impl.Buddy{Order: 5, Free: []impl.Block{}})), 0)
}

func TestBuddyOfWrongPages(t *testing.T) {
	form := impl.BuddyOut{Code: impl.ErrForm}
	for _, pages := range [][]int64{
		{0, 0}, {1, 0}, {0, 2, 1}, {0, 1, 1}, {3, 2, 1, 0}, {31, 31}, {0, 1, 2, 3, 2},
		{-1}, {-1, 0}, {0, -1}, {math.MinInt64}, {0, math.MinInt64}, {math.MinInt64, math.MaxInt64},
		{32}, {0, 32}, {31, 32}, {math.MaxInt64}, {0, 1, 2, 1 << 32},
	} {
		sameBuddy(t, "wrong pages", impl.BuddyOf(5, pages), form)
	}
	for order := int64(0); order <= 5; order++ {
		sameBuddy(t, "the last one", impl.BuddyOf(order, []int64{sizeOf(order) - 1}), impl.BuddyOut{Buddy: impl.Buddy{Order: order, Free: []impl.Block{{At: sizeOf(order) - 1}}}})
		sameBuddy(t, "one too far", impl.BuddyOf(order, []int64{sizeOf(order)}), form)
	}
	for _, no := range noOrders {
		sameBuddy(t, "no order", impl.BuddyOf(no, nil), form)
		sameBuddy(t, "no order", impl.BuddyOf(no, []int64{0}), form)
	}
}

// A list that is too long is told as such, ahead of all that is wrong in it or beside it.
func TestBuddyOfLongLists(t *testing.T) {
	for _, many := range []int{impl.MaxList - 1, impl.MaxList, impl.MaxList + 1, 5000} {
		want := impl.BuddyOut{Code: impl.ErrForm} // no Buddy has as many pages
		if many > impl.MaxList {
			want.Code = impl.ErrSize
		}
		rising := make([]int64, many)
		for i := range rising {
			rising[i] = int64(i)
		}
		for _, order := range []int64{0, 5, 6, -1, math.MaxInt64} {
			sameBuddy(t, "rising", impl.BuddyOf(order, rising), want)
			sameBuddy(t, "noughts", impl.BuddyOf(order, make([]int64, many)), want)
		}
	}
}

// wrongBuddies are not right, each for one reason.
var wrongBuddies = []impl.Buddy{
	{Order: -1}, {Order: 6}, {Order: 64}, {Order: math.MaxInt64}, {Order: math.MinInt64},
	{Order: 6, Free: []impl.Block{{}}}, {Order: -1, Free: []impl.Block{{}}},
	{Order: 2, Free: []impl.Block{{At: 2}, {At: 0}}},                                                 // not rising
	{Order: 2, Free: []impl.Block{{At: 2}, {At: 1}}},                                                 // not rising
	{Order: 2, Free: []impl.Block{{At: 2, Order: 1}, {At: 0}}},                                       // not rising
	{Order: 2, Free: []impl.Block{{At: 1}, {At: 1}}},                                                 // twice the same
	{Order: 5, Free: []impl.Block{{Order: 5}, {Order: 5}}},                                           // twice the same
	{Order: 2, Free: []impl.Block{{At: 1, Order: 1}}},                                                // not aligned
	{Order: 3, Free: []impl.Block{{At: 2, Order: 2}}},                                                // not aligned
	{Order: 5, Free: []impl.Block{{At: 8, Order: 4}}},                                                // not aligned
	{Order: 2, Free: []impl.Block{{At: 4}}},                                                          // outside
	{Order: 2, Free: []impl.Block{{At: 4, Order: 1}}},                                                // outside
	{Order: 5, Free: []impl.Block{{At: 32}}},                                                         // outside
	{Order: 5, Free: []impl.Block{{At: 32, Order: 5}}},                                               // outside
	{Order: 2, Free: []impl.Block{{At: -1}}},                                                         // outside
	{Order: 2, Free: []impl.Block{{At: -2, Order: 1}}},                                               // outside
	{Order: 2, Free: []impl.Block{{At: math.MinInt64, Order: 2}}},                                    // outside
	{Order: 0, Free: []impl.Block{{At: 1}}},                                                          // outside
	{Order: 2, Free: []impl.Block{{At: 1 << 32}}},                                                    // outside
	{Order: 2, Free: []impl.Block{{Order: 1}, {At: 1}}},                                              // one in another one
	{Order: 3, Free: []impl.Block{{Order: 2}, {At: 2, Order: 1}}},                                    // one in another one
	{Order: 2, Free: []impl.Block{{}, {Order: 1}}},                                                   // one in another one, at the same place
	{Order: 2, Free: []impl.Block{{Order: 1}, {}}},                                                   // likewise
	{Order: 5, Free: []impl.Block{{At: 16, Order: 4}, {At: 31}}},                                     // one in another one
	{Order: 1, Free: []impl.Block{{}, {At: 1}}},                                                      // fellows
	{Order: 5, Free: []impl.Block{{At: 30}, {At: 31}}},                                               // fellows
	{Order: 5, Free: []impl.Block{{Order: 4}, {At: 16, Order: 4}}},                                   // fellows
	{Order: 3, Free: []impl.Block{{At: 1}, {At: 4, Order: 1}, {At: 6, Order: 1}}},                    // fellows
	{Order: 4, Free: []impl.Block{{At: 1}, {At: 2}, {At: 8, Order: 1}, {At: 14}, {At: 15}}},          // fellows
	{Order: 0, Free: []impl.Block{{Order: 1}}},                                                       // an order above its own
	{Order: 2, Free: []impl.Block{{Order: 3}}},                                                       // an order above its own
	{Order: 5, Free: []impl.Block{{Order: 6}}},                                                       // an order above its own
	{Order: 2, Free: []impl.Block{{Order: -1}}},                                                      // no order
	{Order: 2, Free: []impl.Block{{Order: 64}}},                                                      // no order
	{Order: 2, Free: []impl.Block{{Order: math.MaxInt64}}},                                           // no order
	{Order: 2, Free: []impl.Block{{Order: math.MinInt64}}},                                           // no order
	{Order: 5, Free: make([]impl.Block, 33)},                                                         // more than there are pages
	{Order: 5, Free: make([]impl.Block, 2*impl.MaxList)},                                             // a list in a thing has no other limit
	{Order: 2, Free: []impl.Block{{}, {At: 2}, {At: math.MaxInt64}}},                                 // outside
	{Order: 3, Free: []impl.Block{{At: math.MaxInt64 - 1, Order: 1}, {At: math.MinInt64, Order: 1}}}, // where sums wrap
}

func TestWrongBuddies(t *testing.T) {
	form := impl.BuddyOut{Code: impl.ErrForm}
	for _, b := range wrongBuddies {
		if impl.BuddyRight(b) {
			t.Errorf("%+v is not right", b)
		}
		for order := int64(-1); order <= 6; order++ {
			sameBuddy(t, "take", impl.BuddyTake(b, order), form)
			same(t, "fits", impl.FitsIn(b, order), false)
			for at := int64(-1); at <= 4; at++ {
				sameBuddy(t, "give", impl.BuddyGive(b, at, order), form)
			}
		}
		same(t, "pages", len(impl.FreePages(b)), 0)
	}
}

func TestWrongOrders(t *testing.T) {
	form := impl.BuddyOut{Code: impl.ErrForm}
	for _, no := range noOrders {
		for order := int64(0); order <= 5; order++ {
			for _, b := range []impl.Buddy{{Order: order}, impl.BuddyNew(order).Buddy} {
				sameBuddy(t, "take", impl.BuddyTake(b, no), form)
				same(t, "fits", impl.FitsIn(b, no), false)
				sameBuddy(t, "give", impl.BuddyGive(b, 0, no), form)
				sameBuddy(t, "give", impl.BuddyGive(b, no, no), form)
				if no < 0 || no >= sizeOf(order) {
					sameBuddy(t, "give", impl.BuddyGive(b, no, 0), form)
				}
			}
		}
	}
	for _, at := range []int64{math.MaxInt64, math.MinInt64, 1 << 40, -32} {
		for order := int64(0); order <= 5; order++ {
			sameBuddy(t, "outside", impl.BuddyGive(impl.Buddy{Order: 5}, at, order), form)
		}
	}
}

// rightByWords follows the document's sentence, each block held against each other one.
func rightByWords(b impl.Buddy) bool {
	if b.Order < 0 || b.Order > 5 {
		return false
	}
	for i, one := range b.Free {
		if one.Order < 0 || one.Order > b.Order {
			return false
		}
		size := sizeOf(one.Order)
		if one.At < 0 || one.At > sizeOf(b.Order)-size || one.At%size != 0 {
			return false
		}
		if i > 0 && one.At <= b.Free[i-1].At {
			return false
		}
		for j, other := range b.Free {
			if i != j && other.At >= one.At && other.At < one.At+size {
				return false
			}
			fellow := one.At + size
			if one.At%(2*size) != 0 {
				fellow = one.At - size
			}
			if other.Order == one.Order && other.At == fellow {
				return false
			}
		}
	}
	return true
}

func TestBuddyRightByTheDocument(t *testing.T) {
	var all []impl.Block
	for at := int64(-1); at <= 4; at++ {
		for order := int64(-1); order <= 3; order++ {
			all = append(all, impl.Block{At: at, Order: order})
		}
	}
	many := 0
	for order := int64(-1); order <= 2; order++ {
		same(t, "nothing free", impl.BuddyRight(impl.Buddy{Order: order}), order >= 0)
		for _, one := range all {
			for _, two := range all {
				for _, three := range all {
					blocks := []impl.Block{one, two, three}
					for count := 1; count <= 3; count++ {
						b := impl.Buddy{Order: order, Free: blocks[:count]}
						if got := impl.BuddyRight(b); got != rightByWords(b) {
							t.Fatalf("%+v: got %v", b, got)
						} else if got {
							many++
						}
					}
				}
			}
		}
	}
	if many == 0 {
		t.Error("none was right")
	}
	eachSet(func(order int64, set pageSet) {
		same(t, "right", impl.BuddyRight(set.buddy(order)), true)
	})
}

// An answer is new memory: what is done to it does not reach what was handed in.
func TestBuddyAnswersAreNewMemory(t *testing.T) {
	b := impl.Buddy{Order: 5, Free: []impl.Block{{At: 2, Order: 1}, {At: 8, Order: 3}}}
	keep := slices.Clone(b.Free)
	for _, out := range []impl.BuddyOut{impl.BuddyTake(b, 1), impl.BuddyTake(b, 3), impl.BuddyTake(b, 0), impl.BuddyGive(b, 16, 4), impl.BuddyGive(b, 0, 1)} {
		for i := range out.Buddy.Free {
			out.Buddy.Free[i] = impl.Block{At: 77, Order: 77}
		}
		same(t, "handed in, not changed", b.Free, keep)
	}
	first := impl.BuddyNew(3)
	first.Buddy.Free[0].At = 77
	sameBuddy(t, "nothing is kept", impl.BuddyNew(3), impl.BuddyOut{Buddy: impl.Buddy{Order: 3, Free: []impl.Block{{Order: 3}}}})
}
