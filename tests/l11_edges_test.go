package tests

import (
	"fmt"
	"slices"
	"testing"

	"loop.example/g00740/impl"
)

// A call that is not right is told ErrForm, whatever it was told and whatever there is; a reply that may not be, ErrState.
func TestPlainOfCallsThatAreNotRight(t *testing.T) {
	t.Parallel()
	p := plainMade(t, impl.Handle{Id: 7}).Plain
	for word := int64(1); word <= 12; word++ {
		for _, n := range append([]int64{-1, 16, 1000, 1000000}, wideNumbers...) {
			c := impl.Call{Word: word, X: 1}
			for i, place := range []*int64{&c.Who, &c.Word, &c.A.Label, &c.A.N, &c.B.Label, &c.B.N, &c.X, &c.Y, &c.Z} {
				was := *place
				*place = n
				right := callRightByWords(c)
				if !right {
					for code := int64(0); code <= 10; code++ {
						alike(t, fmt.Sprint("place ", i), plainDone(t, p, c, impl.Reply{Code: code}), impl.PlainOut{Code: impl.ErrForm})
					}
					same(t, "explains", explained(t, impl.Handle{Id: 7}, []impl.Call{c}, []impl.Reply{{Code: impl.ErrForm}}), false)
				}
				same(t, "odd", plainDone(t, p, c, impl.Reply{Code: 2, N: 1}).Code == impl.ErrForm, !right)
				*place = was
			}
		}
	}
	root := []impl.Handle{{Id: 7}}
	long := impl.Plain{Things: make([]impl.Thing, 401), Told: [][]impl.Handle{root}, Ever: root}
	alike(t, "the call and the plain", impl.PlainDo(long, impl.Call{}, impl.Reply{}), impl.PlainOut{Code: impl.ErrForm})
	alike(t, "the plain and the reply", impl.PlainDo(long, impl.Call{Word: 3}, impl.Reply{Code: 5}), impl.PlainOut{Code: impl.ErrForm})
	alike(t, "the reply alone", impl.PlainDo(p, impl.Call{Word: 3}, impl.Reply{Code: 5}), impl.PlainOut{Code: impl.ErrState})
}

// What a word asks of its numbers is looked at ahead of what there is: ErrForm is told also of what never was.
func TestPlainFormsAtTheirEdges(t *testing.T) {
	t.Parallel()
	w := newTwin(t, 12)
	seg := w.makes(0, impl.Ref{}, impl.KdSeg, 0, 1)
	space := w.makes(0, impl.Ref{}, impl.KdSpace, 0, 0)
	w.is("map", impl.Call{Word: impl.WdMap, A: space, B: seg, X: 7, Y: 1}, impl.Reply{})
	none := impl.Ref{N: 999}
	for _, c := range []impl.Call{
		{Word: impl.WdMake, X: 0}, {Word: impl.WdMake, X: 4}, {Word: impl.WdMake, X: 1, Y: 16}, {Word: impl.WdMake, X: 1, Z: 6},
		{Word: impl.WdMake, X: 3, Z: 1}, {Who: 1, Word: impl.WdMake, X: 1, Y: 2}, {Word: impl.WdPoke, A: seg, Y: 65536},
		{Word: impl.WdPoke, A: seg, X: 4, Y: 65536}, {Word: impl.WdFill, A: seg, Y: 65536}, {Word: impl.WdMap, A: space, X: 8},
		{Word: impl.WdMap, A: space, Y: 32}, {Word: impl.WdUnmap, A: space, X: 8}, {Word: impl.WdLoad, A: space, X: 8},
		{Word: impl.WdLoad, A: space, X: 7, Y: 2}, {Word: impl.WdStore, A: space, X: 8}, {Word: impl.WdStore, A: space, X: 7, Y: 2},
		{Word: impl.WdStore, A: space, X: 7, Z: 65536},
	} {
		w.fails("form", c, impl.ErrForm)
		c.A = none
		w.fails("form, of what never was", c, impl.ErrForm)
		c.A = seg
		w.fails("form, of another kind", c, impl.ErrForm)
	}
	w.is("the last word", impl.Call{Word: impl.WdPoke, A: seg, X: 3, Y: 65535}, impl.Reply{})
	w.is("the last word", impl.Call{Word: impl.WdPeek, A: seg, X: 3}, impl.Reply{N: 65535})
	w.is("the last word there", impl.Call{Word: impl.WdLoad, A: space, X: 7, Y: 1}, impl.Reply{N: 65535})
	w.is("store", impl.Call{Word: impl.WdStore, A: space, X: 7, Y: 1, Z: 65535}, impl.Reply{})
	w.is("fill", impl.Call{Word: impl.WdFill, A: seg, Y: 65535, X: 4}, impl.Reply{})
	for _, i := range []int64{4, 5, 63, 64, 999999} {
		w.fails("behind the last word", impl.Call{Word: impl.WdPeek, A: seg, X: i}, impl.ErrRange)
		w.fails("behind the last word", impl.Call{Word: impl.WdPoke, A: seg, X: i}, impl.ErrRange)
		w.fails("none ahead of range", impl.Call{Word: impl.WdPeek, A: space, X: i}, impl.ErrNone)
		w.fails("none ahead of range", impl.Call{Word: impl.WdPoke, A: none, X: i}, impl.ErrNone)
		w.fails("none ahead of range, of another label", impl.Call{Who: 1, Word: impl.WdPoke, A: seg, X: i}, impl.ErrNone)
	}
	w.is("page 31, of what has two", impl.Call{Word: impl.WdMap, A: space, B: seg, Y: 31}, impl.Reply{})
	w.fails("there is no such page", impl.Call{Word: impl.WdLoad, A: space}, impl.ErrNone)
	w.is("page 2", impl.Call{Word: impl.WdMap, A: space, B: seg, Y: 2}, impl.Reply{})
	w.fails("there is no such page", impl.Call{Word: impl.WdStore, A: space}, impl.ErrNone)
	w.fails("nothing stands there", impl.Call{Word: impl.WdLoad, A: space, X: 6}, impl.ErrNone)
}

// Each word of each page of segments of all orders, written and looked at by name and where it stands.
func TestPlainWordsOfEachPage(t *testing.T) {
	t.Parallel()
	for order := int64(0); order <= 5; order++ {
		w := newTwin(t, 100+order)
		seg := w.makes(0, impl.Ref{}, impl.KdSeg, 0, order)
		space := w.makes(0, impl.Ref{}, impl.KdSpace, 0, 0)
		pages := sizeOf(order)
		for i := range 2 * pages {
			w.is("poke", impl.Call{Word: impl.WdPoke, A: seg, X: i, Y: 1000 + i}, impl.Reply{})
		}
		for page := range pages {
			va := page % 8
			w.is("map", impl.Call{Word: impl.WdMap, A: space, B: seg, X: va, Y: page}, impl.Reply{})
			for i := range int64(2) {
				w.is("load", impl.Call{Word: impl.WdLoad, A: space, X: va, Y: i}, impl.Reply{N: 1000 + 2*page + i})
				w.is("store", impl.Call{Word: impl.WdStore, A: space, X: va, Y: i, Z: 7 * (2*page + i)}, impl.Reply{})
			}
		}
		for i := range 2 * pages {
			w.is("peek", impl.Call{Word: impl.WdPeek, A: seg, X: i}, impl.Reply{N: 7 * i})
		}
		w.fails("behind all", impl.Call{Word: impl.WdPeek, A: seg, X: 2 * pages}, impl.ErrRange)
		w.is("fill", impl.Call{Word: impl.WdFill, A: seg, Y: 5}, impl.Reply{})
		for page := max(0, pages-8); page < pages; page++ {
			w.is("filled", impl.Call{Word: impl.WdLoad, A: space, X: page % 8, Y: page & 1}, impl.Reply{N: 5})
		}
	}
}

// What stands in a space of what is gone, of what is no segment, of nothing at all, and of a segment made anew in its place.
func TestPlainMapsOfWhatIsGone(t *testing.T) {
	t.Parallel()
	w := newTwin(t, 77)
	box := w.makes(0, impl.Ref{}, impl.KdBox, 0, 1)
	seg := w.makes(0, box, impl.KdSeg, 0, 0)
	other := w.makes(0, box, impl.KdSeg, 0, 0)
	space := w.makes(0, impl.Ref{}, impl.KdSpace, 0, 0)
	for va, b := range []impl.Ref{seg, other, seg, space, box, {}, {N: 500}, {Label: 3}} {
		w.is("map", impl.Call{Word: impl.WdMap, A: space, B: b, X: int64(va)}, impl.Reply{})
	}
	same(t, "what names nothing", w.p.Things[4].Maps[6], impl.Map{Va: 6, Seg: impl.Handle{Gen: 3}})
	same(t, "what one may not name", w.p.Things[4].Maps[7], impl.Map{Va: 7, Seg: impl.Handle{Gen: 3}})
	for va := int64(3); va < 8; va++ {
		w.fails("no segment", impl.Call{Word: impl.WdLoad, A: space, X: va}, impl.ErrNone)
		w.fails("no segment", impl.Call{Word: impl.WdStore, A: space, X: va}, impl.ErrNone)
	}
	w.is("fill", impl.Call{Word: impl.WdFill, A: seg, Y: 8}, impl.Reply{})
	w.is("fast", impl.Call{Word: impl.WdLoad, A: space, X: 0}, impl.Reply{N: 8})
	w.is("goes", impl.Call{Word: impl.WdDrop, A: seg}, impl.Reply{})
	again := w.makes(0, box, impl.KdSeg, 0, 0)
	w.fails("stale", impl.Call{Word: impl.WdLoad, A: space, X: 0}, impl.ErrNone)
	w.fails("stale no more", impl.Call{Word: impl.WdLoad, A: space, X: 0}, impl.ErrNone)
	w.fails("never fast", impl.Call{Word: impl.WdStore, A: space, X: 2}, impl.ErrNone)
	w.is("the other one", impl.Call{Word: impl.WdLoad, A: space, X: 1}, impl.Reply{})
	w.is("map anew", impl.Call{Word: impl.WdMap, A: space, B: again, X: 2}, impl.Reply{})
	w.is("all noughts", impl.Call{Word: impl.WdLoad, A: space, X: 2}, impl.Reply{})
	w.is("the box goes", impl.Call{Word: impl.WdDrop, A: box}, impl.Reply{})
	for va := range int64(8) {
		w.fails("all are gone", impl.Call{Word: impl.WdLoad, A: space, X: va}, impl.ErrNone)
	}
	same(t, "they stand there still", len(w.p.Things[1].Maps), 8)
	w.is("map of what is gone", impl.Call{Word: impl.WdMap, A: space, B: seg, X: 5, Y: 9}, impl.Reply{})
	same(t, "by its name", w.p.Things[1].Maps[5], impl.Map{Va: 5, Seg: w.name(seg), Page: 9})
	w.is("the space goes", impl.Call{Word: impl.WdDrop, A: space}, impl.Reply{})
	same(t, "explains", explained(t, w.name(impl.Ref{}), w.calls, w.told), true)
}

// Kids in the order in which they were made, and room, behind makes and drops of each kind and order; also where more is told
// to be in a box than it has pages.
func TestPlainKidsAndRoom(t *testing.T) {
	t.Parallel()
	d := dice(295075153)
	for range 12 {
		p := plainMade(t, impl.Handle{Id: 1}).Plain
		var in []impl.Handle
		size := map[impl.Handle]int64{}
		room := int64(32)
		for n := range int64(60) {
			if n%3 < 2 || len(in) == 0 {
				h := impl.Handle{Id: 100 - n, Gen: int64(d.draw(9))}
				kind := int64(1 + d.draw(3))
				c := impl.Call{Word: impl.WdMake, X: kind, Y: int64(d.draw(16)), Z: int64(d.draw(6))}
				if kind == impl.KdSpace {
					c.Z = 0
				} else {
					size[h] = sizeOf(c.Z)
				}
				p = plainDone(t, p, c, impl.Reply{Handle: h}).Plain
				in, room = append(in, h), room-size[h]
			} else {
				i := d.draw(len(in))
				c := impl.Call{Word: impl.WdDrop, A: impl.Ref{N: int64(slices.Index(p.Told[0], in[i]))}}
				p = plainDone(t, p, c, impl.Reply{}).Plain
				room += size[in[i]]
				in = slices.Delete(in, i, i+1)
			}
			who := int64(d.draw(16))
			same(t, "kids", plainDone(t, p, impl.Call{Who: who, Word: impl.WdKids}, impl.Reply{Handles: in}).Code, int64(impl.OK))
			same(t, "room", plainDone(t, p, impl.Call{Who: who, Word: impl.WdRoom}, impl.Reply{N: room}).Code, int64(impl.OK))
			for _, other := range []int64{room - 1, room + 1, room - 32, room + 32} {
				same(t, "another room", impl.PlainDo(p, impl.Call{Word: impl.WdRoom}, impl.Reply{N: other}).Code, int64(impl.ErrState))
			}
			if len(in) > 1 {
				turned := slices.Clone(in)
				turned[0], turned[len(in)-1] = in[len(in)-1], in[0]
				same(t, "another order", plainDone(t, p, impl.Call{Word: impl.WdKids}, impl.Reply{Handles: turned}).Code, int64(impl.ErrState))
			}
		}
	}
}

// manyMakes are so many Makes of spaces in the root, and a name for each.
func manyMakes(many int) ([]impl.Call, []impl.Reply) {
	l, r := make([]impl.Call, many), make([]impl.Reply, many)
	for i := range many {
		l[i] = impl.Call{Word: impl.WdMake, X: impl.KdSpace, Y: int64(i % 16)}
		r[i] = impl.Reply{Handle: impl.Handle{Id: int64(2 + i)}}
	}
	return l, r
}

// As many Things, names, calls and replies as there may be, and one more.
func TestPlainAsManyAsMayBe(t *testing.T) {
	t.Parallel()
	root := impl.Handle{Id: 1}
	l, r := manyMakes(402)
	for _, many := range []int{0, 1, 2, 60, 61, 399, 400} {
		same(t, "as many replies as calls", explained(t, root, l[:many], r[:many]), true)
		same(t, "one reply more", explained(t, root, l[:many], r[:many+1]), false)
		same(t, "one call more", explained(t, root, l[:many+1], r[:many]), false)
	}
	same(t, "too many", explained(t, root, l[:401], r[:401]), false)
	same(t, "too many calls", explained(t, root, l[:401], r[:400]), false)
	same(t, "too many replies", explained(t, root, l[:400], r[:401]), false)
	calls, replies := make([]impl.Call, 401), make([]impl.Reply, 401)
	for i := range calls {
		calls[i], replies[i] = impl.Call{Word: impl.WdRoom}, impl.Reply{N: 32}
	}
	same(t, "as many as may be", explained(t, root, calls[:400], replies[:400]), true)
	same(t, "too many of any call", explained(t, root, calls, replies), false)
	same(t, "none", impl.Explains(root, nil, []impl.Reply{}) && impl.Explains(root, []impl.Call{}, nil), true)

	p := impl.PlainNew(root).Plain
	for i := range 399 {
		p = impl.PlainDo(p, l[i], r[i]).Plain
	}
	same(t, "400 of both", []int{len(p.Things), len(p.Ever)}, []int{400, 400})
	room := impl.Call{Word: impl.WdRoom}
	same(t, "room", plainDone(t, p, room, impl.Reply{N: 32}).Code, int64(impl.OK))
	same(t, "another room", plainDone(t, p, room, impl.Reply{N: 31}).Code, int64(impl.ErrState))
	more := plainDone(t, p, l[399], r[399])
	same(t, "one more may be told", []int{int(more.Code), len(more.Plain.Things), len(more.Plain.Ever)}, []int{0, 401, 401})
	alike(t, "401 of both", plainDone(t, more.Plain, room, impl.Reply{N: 32}), impl.PlainOut{Code: impl.ErrForm})
	more.Plain.Ever = more.Plain.Ever[:400]
	alike(t, "401 Things", plainDone(t, more.Plain, room, impl.Reply{N: 32}), impl.PlainOut{Code: impl.ErrForm})
	more = plainDone(t, p, l[399], r[399])
	more.Plain.Things = more.Plain.Things[:400]
	alike(t, "401 names", plainDone(t, more.Plain, room, impl.Reply{N: 32}), impl.PlainOut{Code: impl.ErrForm})
	gone := p
	for i := range 399 {
		gone = impl.PlainDo(gone, impl.Call{Word: impl.WdDrop, A: impl.Ref{N: int64(i + 1)}}, impl.Reply{}).Plain
	}
	same(t, "all went", []int{len(gone.Things), len(gone.Ever)}, []int{1, 400})
	same(t, "room, where all went", plainDone(t, gone, room, impl.Reply{N: 32}).Code, int64(impl.OK))
	gone = plainDone(t, gone, l[399], r[399]).Plain
	alike(t, "401 names of two", plainDone(t, gone, room, impl.Reply{N: 32}), impl.PlainOut{Code: impl.ErrForm})

	told := slices.Clone(p.Told)
	told[3] = make([]impl.Handle, 1000)
	told[3][999] = impl.Handle{Id: 5}
	p.Told = told
	info := impl.Call{Who: 3, Word: impl.WdInfo, A: impl.Ref{Label: 3, N: 999}}
	same(t, "how much was told is not asked", plainDone(t, p, info, impl.Reply{N: 303}).Code, int64(impl.OK))
	empty := impl.PlainDo(impl.Plain{}, room, impl.Reply{Code: impl.ErrNone})
	same(t, "nothing at all", empty.Code, int64(impl.OK))
}

// Boxes within boxes, as many as there may be: what is in the first one goes with it.
func TestPlainDropsADeepChain(t *testing.T) {
	t.Parallel()
	root := impl.Handle{Id: 1}
	for _, wide := range []bool{false, true} {
		p := impl.PlainNew(root).Plain
		for i := range int64(398) {
			up := impl.Ref{N: i}
			if wide && i > 0 {
				up.N = 1 + (i-1)/3
			}
			c := impl.Call{Word: impl.WdMake, A: up, X: impl.KdBox, Z: 5}
			p = impl.PlainDo(p, c, impl.Reply{Handle: impl.Handle{Id: 1000 - i}}).Plain
		}
		p = impl.PlainDo(p, impl.Call{Word: impl.WdMake, X: impl.KdSeg}, impl.Reply{Handle: impl.Handle{Id: 2}}).Plain
		same(t, "so many", len(p.Things), 400)
		half := plainDone(t, p, impl.Call{Word: impl.WdDrop, A: impl.Ref{N: 200}}, impl.Reply{}).Plain
		if !wide {
			same(t, "half of them", len(half.Things), 201)
		}
		all := plainDone(t, p, impl.Call{Word: impl.WdDrop, A: impl.Ref{N: 1}}, impl.Reply{}).Plain
		same(t, "all but the root and what stands beside", len(all.Things), 2)
		same(t, "what stands beside", all.Things[1].Handle, impl.Handle{Id: 2})
	}
}

// The root may be told to have the name that is none; a Ref that names nothing is then its.
func TestPlainOfTheNameThatIsNone(t *testing.T) {
	root := impl.Handle{Gen: 3}
	p := plainMade(t, root).Plain
	for _, ref := range []impl.Ref{{}, {N: 1}, {Label: 9}} {
		same(t, "room", plainDone(t, p, impl.Call{Word: impl.WdRoom, A: ref}, impl.Reply{N: 32}).Code, int64(impl.OK))
		c := impl.Call{Word: impl.WdMake, A: ref, X: impl.KdSeg}
		same(t, "made in it", plainDone(t, p, c, impl.Reply{Handle: impl.Handle{Id: 3}}).Plain.Things[1].Up, root)
	}
}

// By the document's words nothing goes whose Up is the zero Handle: neither the root, nor what is in a box of that name. In no
// other way that name is another one than all others: the root is in nothing.
func TestPlainOfTheZeroHandle(t *testing.T) {
	drop := impl.Call{Word: impl.WdDrop, A: impl.Ref{N: 1}}
	p := plainMade(t, impl.Handle{}).Plain
	p = plainDone(t, p, impl.Call{Word: impl.WdMake, X: impl.KdSeg}, impl.Reply{Handle: impl.Handle{Id: 3}}).Plain
	same(t, "kids", plainDone(t, p, impl.Call{Word: impl.WdKids}, impl.Reply{Handles: []impl.Handle{{Id: 3}}}).Code, int64(impl.OK))
	same(t, "room", plainDone(t, p, impl.Call{Word: impl.WdRoom}, impl.Reply{N: 31}).Code, int64(impl.OK))
	same(t, "its Up is the zero Handle", plainDone(t, p, drop, impl.Reply{Code: impl.ErrNone}).Code, int64(impl.OK))

	p = plainMade(t, impl.Handle{Id: 8}).Plain
	p = plainDone(t, p, impl.Call{Word: impl.WdMake, X: impl.KdBox}, impl.Reply{Handle: impl.Handle{}}).Plain
	p = plainDone(t, p, impl.Call{Word: impl.WdMake, A: impl.Ref{N: 1}, X: impl.KdSeg}, impl.Reply{Handle: impl.Handle{Id: 3}}).Plain
	same(t, "kids of the root", plainDone(t, p, impl.Call{Word: impl.WdKids}, impl.Reply{Handles: []impl.Handle{{}}}).Code, int64(impl.OK))
	same(t, "kids", plainDone(t, p, impl.Call{Word: impl.WdKids, A: drop.A}, impl.Reply{Handles: []impl.Handle{{Id: 3}}}).Code, int64(impl.OK))
	same(t, "room", plainDone(t, p, impl.Call{Word: impl.WdRoom, A: drop.A}, impl.Reply{}).Code, int64(impl.OK))
	left := plainDone(t, p, drop, impl.Reply{}).Plain
	same(t, "it goes with what is in it", len(left.Things) == 1 && left.Things[0].Handle.Id == 8, true)
}
