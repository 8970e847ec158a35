package tests

import (
	"fmt"
	"slices"
	"testing"

	"loop.example/g00740/impl"
)

// answers asks all words of a plain kernel of which anything may be told: each call ends, and what holds of every call holds.
func answers(t *testing.T, what string, p impl.Plain, refs ...impl.Ref) {
	t.Helper()
	before := copyPlain(p)
	for word := int64(1); word <= 12; word++ {
		for _, ref := range append(refs, impl.Ref{}) {
			for who := range int64(3) {
				c := impl.Call{Who: who, Word: word, A: ref, B: ref, X: 1, Y: word & 1}
				for _, r := range []impl.Reply{{}, {Code: impl.ErrNone}, {Code: impl.ErrRange}, {Code: impl.ErrFull}, {Handle: impl.Handle{By: who, Id: 999}}} {
					got := impl.PlainDo(p, c, r)
					same(t, what+": a code of its own", got.Code == impl.OK || got.Code == impl.ErrState || got.Code == impl.ErrForm, true)
					if got.Code != impl.OK {
						same(t, what+": a code alone", equal(got, impl.PlainOut{Code: got.Code}), true)
						continue
					}
					same(t, what+": new memory", newMemory(got, p), true)
				}
			}
		}
	}
	same(t, what+": handed in, not changed", equal(p, before), true)
}

// oddPlain is a plain kernel with a root, two boxes, a segment and a space, all of label 0, to be spoiled.
func oddPlain() impl.Plain {
	p := impl.PlainNew(impl.Handle{Id: 1}).Plain
	for i, c := range []impl.Call{
		{Word: impl.WdMake, X: impl.KdBox, Z: 3}, {Word: impl.WdMake, A: impl.Ref{N: 1}, X: impl.KdBox, Z: 2},
		{Word: impl.WdMake, A: impl.Ref{N: 2}, X: impl.KdSeg, Z: 1}, {Word: impl.WdMake, A: impl.Ref{N: 2}, X: impl.KdSpace},
	} {
		p = impl.PlainDo(p, c, impl.Reply{Handle: impl.Handle{Id: int64(2 + i)}}).Plain
	}
	return impl.PlainDo(p, impl.Call{Word: impl.WdMap, A: impl.Ref{N: 4}, B: impl.Ref{N: 3}, X: 1, Y: 1}, impl.Reply{}).Plain
}

var oddRefs = []impl.Ref{{N: 1}, {N: 2}, {N: 3}, {N: 4}, {N: 5}, {Label: 1}, {Label: 15, N: 999}}

func TestOddPlainsByHand(t *testing.T) {
	t.Parallel()
	for what, spoil := range map[string]func(p *impl.Plain){
		"nothing":            func(p *impl.Plain) { *p = impl.Plain{} },
		"no things":          func(p *impl.Plain) { p.Things = nil },
		"nothing told":       func(p *impl.Plain) { p.Told = nil },
		"nothing ever":       func(p *impl.Plain) { p.Ever = nil },
		"one list":           func(p *impl.Plain) { p.Told = p.Told[:1] },
		"fifteen lists":      func(p *impl.Plain) { p.Told = p.Told[:15] },
		"more lists":         func(p *impl.Plain) { p.Told = append(p.Told, p.Told[0], p.Told[0]) },
		"a ring of two":      func(p *impl.Plain) { p.Things[1].Up = p.Things[2].Handle },
		"a ring of one":      func(p *impl.Plain) { p.Things[2].Up = p.Things[2].Handle },
		"the root in a ring": func(p *impl.Plain) { p.Things[0].Up = p.Things[2].Handle },
		"the root in itself": func(p *impl.Plain) { p.Things[0].Up = p.Things[0].Handle },
		"no Up":              func(p *impl.Plain) { p.Things[2].Up = impl.Handle{Id: 77} },
		"the zero Up":        func(p *impl.Plain) { p.Things[2].Up = impl.Handle{} },
		"in a segment":       func(p *impl.Plain) { p.Things[2].Up = p.Things[3].Handle },
		"two of one name":    func(p *impl.Plain) { p.Things[2].Handle = p.Things[1].Handle },
		"all of one name": func(p *impl.Plain) {
			for i := range p.Things {
				p.Things[i].Handle, p.Things[i].Up = p.Ever[1], p.Ever[1]
			}
		},
		"another thing first": func(p *impl.Plain) { slices.Reverse(p.Things) },
		"no words":            func(p *impl.Plain) { p.Things[3].Words = nil },
		"one word":            func(p *impl.Plain) { p.Things[3].Words = []int64{7} },
		"three words":         func(p *impl.Plain) { p.Things[3].Words = []int64{7, 8, 9} },
		"more words":          func(p *impl.Plain) { p.Things[3].Words = make([]int64, 1000) },
		"words of a box":      func(p *impl.Plain) { p.Things[1].Words = []int64{1, 2, 3} },
		"maps of a box":       func(p *impl.Plain) { p.Things[1].Maps = []impl.Map{{Va: 1}} },
		"maps of nothing":     func(p *impl.Plain) { p.Things[4].Maps = []impl.Map{{Va: 1, Seg: impl.Handle{Id: 70}}} },
		"maps that fall":      func(p *impl.Plain) { p.Things[4].Maps = []impl.Map{{Va: 7}, {Va: 1}, {Va: 1}, {Va: 0}} },
		"told what never was": func(p *impl.Plain) { p.Told[0][2] = impl.Handle{By: 99, Id: -1, Gen: 5} },
	} {
		p := oddPlain()
		spoil(&p)
		answers(t, what, p, oddRefs...)
	}
	for _, n := range append([]int64{-1, 6, 63, 64, 65}, wideNumbers...) {
		for i := range 5 {
			p := oddPlain()
			one := &p.Things[i]
			for _, place := range []*int64{&one.Kind, &one.Of, &one.Order, &one.Handle.By, &one.Up.By, &one.Handle.Id} {
				was := *place
				*place = n
				answers(t, fmt.Sprint("thing ", i, ", ", n), p, oddRefs...)
				*place = was
			}
		}
		p := oddPlain()
		for _, place := range []*int64{&p.Things[4].Maps[0].Page, &p.Things[4].Maps[0].Va, &p.Things[4].Maps[0].Seg.By, &p.Told[0][3].By} {
			was := *place
			*place = n
			answers(t, fmt.Sprint("map ", n), p, oddRefs...)
			*place = was
		}
	}
}

// Of what did not come of PlainNew there may be no list for who makes something.
func TestAMakeWithoutAList(t *testing.T) {
	for many := range 20 {
		p := oddPlain()
		p.Things[1].Of = 13
		told := p.Told[0]
		p.Told = make([][]impl.Handle, many)
		if many > 0 {
			p.Told[0] = told
		}
		got := impl.PlainDo(p, impl.Call{Who: 13, Word: impl.WdMake, A: impl.Ref{N: 1}, X: impl.KdSeg, Y: 15}, impl.Reply{Handle: impl.Handle{By: 13, Id: 9}})
		if many > 13 {
			same(t, "there is one", []int{int(got.Code), len(got.Plain.Things), len(got.Plain.Told[13])}, []int{0, 6, 1})
		}
		same(t, "new memory", newMemory(got, p), true)
		answers(t, fmt.Sprint(many, " lists"), p, oddRefs...)
	}
}

// As many things as may be, each in the next one, or all in one another: also then a drop ends.
func TestOddPlainsThatAreGreat(t *testing.T) {
	t.Parallel()
	for way := range 4 {
		p := impl.PlainNew(impl.Handle{Id: 1}).Plain
		for i := int64(1); i < 400; i++ {
			one := impl.Thing{Handle: impl.Handle{Id: 1 + i}, Kind: impl.KdBox, Order: 5}
			switch way {
			case 0: // a ring
				one.Up = impl.Handle{Id: 2 + i%399}
			case 1: // each in each
				one.Handle, one.Up = impl.Handle{Id: 2}, impl.Handle{Id: 2}
			case 2: // two names, in each other
				one.Handle, one.Up = impl.Handle{Id: 2 + i%2}, impl.Handle{Id: 3 - i%2}
			default: // half in a ring, half in its first one
				one.Up = impl.Handle{Id: 2 + i%200}
				if i > 200 {
					one.Up = impl.Handle{Id: 2}
				}
			}
			p.Things = append(p.Things, one)
			p.Told[0] = append(p.Told[0], one.Handle)
		}
		for _, n := range []int64{0, 1, 2, 100, 399} {
			for _, word := range []int64{impl.WdDrop, impl.WdKids, impl.WdRoom, impl.WdInfo} {
				c := impl.Call{Word: word, A: impl.Ref{N: n}}
				got := impl.PlainDo(p, c, impl.Reply{})
				same(t, "it ends", got.Code == impl.OK || got.Code == impl.ErrState, true)
				same(t, "new memory", newMemory(got.Plain.Told, p.Told), true)
			}
		}
	}
}

// Drawn plains, all in whatever way.
func TestWildPlains(t *testing.T) {
	t.Parallel()
	d := dice(314606891)
	some := append([]int64{0, 1, 2, 3, 4, 5, 6, 7, -1, 15, 16}, wideNumbers...)
	n := func() int64 { return some[d.draw(len(some))] }
	name := func() impl.Handle {
		if d.draw(4) == 0 {
			return impl.Handle{By: n(), Id: n(), Gen: n()}
		}
		return impl.Handle{By: int64(d.draw(2)), Id: int64(d.draw(4))}
	}
	names := func() []impl.Handle {
		var out []impl.Handle
		for range d.draw(6) {
			out = append(out, name())
		}
		return out
	}
	codes := map[string]int{}
	for range 2000 {
		p := impl.Plain{Ever: names(), Told: make([][]impl.Handle, d.draw(19))}
		for range 1 + d.draw(9) {
			one := impl.Thing{Handle: name(), Kind: int64(3 - d.draw(5)/2), Of: int64(d.draw(2)), Order: int64(d.draw(7)), Up: name(), Words: make([]int64, d.draw(9))}
			if d.draw(4) == 0 {
				one.Kind, one.Of, one.Order = n(), n(), n()
			}
			for range d.draw(4) {
				one.Maps = append(one.Maps, impl.Map{Va: int64(d.draw(3)), Seg: name(), Page: []int64{0, 1, n()}[d.draw(3)]})
			}
			p.Things = append(p.Things, one)
		}
		for i := range p.Things {
			for j := range p.Things[i].Maps {
				if d.draw(3) > 0 {
					p.Things[i].Maps[j].Seg = p.Things[d.draw(len(p.Things))].Handle
				}
			}
		}
		for i := range p.Told {
			p.Told[i] = names()
			for range d.draw(9) {
				p.Told[i] = append(p.Told[i], p.Things[d.draw(len(p.Things))].Handle)
			}
		}
		for range 20 {
			c := impl.Call{Who: int64(d.draw(2)), Word: int64(1 + d.draw(12)), A: impl.Ref{Label: int64(d.draw(2)), N: int64(d.draw(9))}, X: int64(d.draw(3)), Y: int64(d.draw(2)), Z: int64(d.draw(2))}
			r := impl.Reply{Code: []int64{impl.OK, impl.OK, impl.ErrNone, impl.ErrForm, impl.ErrFull, impl.ErrRange}[d.draw(6)]}
			if r.Code == impl.OK && c.Word == impl.WdMake {
				r.Handle = impl.Handle{By: c.Who, Id: 50}
			}
			before := copyPlain(p)
			got := impl.PlainDo(p, c, r)
			if r.Code == impl.OK {
				codes[fmt.Sprint("word ", c.Word, " ", got.Code)]++
			}
			same(t, "handed in, not changed", equal(p, before), true)
			same(t, "new memory", newMemory(got, p), true)
			same(t, "a code alone", got.Code == impl.OK || equal(got, impl.PlainOut{Code: impl.ErrState}), true)
			if got.Code == impl.OK && r.Code != impl.OK {
				alike(t, "a code turns nothing", got.Plain, p)
			}
		}
		if t.Failed() {
			t.FailNow()
		}
	}
	cameUp(t, codes, "word 1 0", "word 2 0", "word 4 0", "word 6 0", "word 7 0", "word 8 0", "word 9 0", "word 10 0")
}

// Lists that are shared in what is handed in, or have more behind them, are neither shared nor written on.
func TestSharedListsOfPlains(t *testing.T) {
	words := []int64{1, 2, 3, 4, 5, 6}
	maps := []impl.Map{{Va: 1}, {Va: 2}, {Va: 5}, {Va: 6}}
	names := []impl.Handle{{Id: 1}, {Id: 2}, {Id: 3}, {Id: 4}, {Id: 5}, {Id: 6}, {Id: 7}}
	things := []impl.Thing{
		{Handle: names[0], Kind: impl.KdBox, Order: 5},
		{Handle: names[1], Kind: impl.KdSeg, Order: 1, Up: names[0], Words: words[:4]},
		{Handle: names[2], Kind: impl.KdSeg, Order: 1, Up: names[0], Words: words[:4]},
		{Handle: names[3], Kind: impl.KdSpace, Up: names[0], Maps: maps[:3]},
		{Handle: names[4], Kind: impl.KdSpace, Up: names[0], Maps: maps[:3]},
		{Handle: names[5], Kind: impl.KdBox, Up: names[0]},
	}
	lists := make([][]impl.Handle, 18)
	for label := range lists {
		lists[label] = names[:5]
	}
	p := impl.Plain{Things: things[:5], Told: lists[:16], Ever: names[:5]}
	all := func() string { return fmt.Sprintf("%+v %+v %+v %+v %+v", words, maps, names, things, lists) }
	before := all()
	fresh := impl.Handle{Id: 50}
	for word, r := range []impl.Reply{
		{}, {Handle: fresh}, {}, {N: 12}, {Handles: names[1:5]}, {N: 28}, {N: 2}, {}, {}, {}, {}, {Code: impl.ErrNone}, {Code: impl.ErrNone},
	} {
		c := impl.Call{Word: int64(word), A: impl.Ref{N: []int64{0, 0, 1, 1, 0, 0, 1, 1, 1, 3, 3, 3, 3}[word]}, B: impl.Ref{N: 1}, X: 1, Y: 1}
		if word == 0 {
			c = impl.Call{Word: impl.WdMake, X: impl.KdSeg} // full, and nothing changes
			r = impl.Reply{Code: impl.ErrFull}
		}
		what := fmt.Sprintf("%+v", c)
		first, second := plainDone(t, p, c, r), plainDone(t, p, c, r)
		same(t, what+": told", first.Code, int64(impl.OK))
		same(t, what+": new memory", newMemory(first, second, p, words, maps, names, things, lists, r), true)
		same(t, what+": behind the lists", all(), before)
		seen := fmt.Sprintf("%+v", second)
		for i := range first.Plain.Things {
			one := &first.Plain.Things[i]
			one.Order = -7
			one.Words, one.Maps = append(one.Words, -7), append(one.Maps, impl.Map{Va: -7})
			one.Words[0], one.Maps[0].Page = -7, -7
		}
		first.Plain.Ever[0].Id = -7
		for label := range first.Plain.Told {
			same(t, what+": another list of the answer", first.Plain.Told[label][0].Id, int64(1))
			first.Plain.Told[label][0].Id = -7
			first.Plain.Told[label] = append(first.Plain.Told[label], fresh)
		}
		same(t, what+": another answer, not changed", fmt.Sprintf("%+v", second), seen)
		same(t, what+": handed in, not changed", all(), before)
	}
}
