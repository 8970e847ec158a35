package tests

import (
	"fmt"
	"slices"
	"testing"

	"loop.example/g00740/impl"
)

// The calls of chapter 12, told once more by the document's words alone.

func copyPlain(p impl.Plain) impl.Plain {
	out := impl.Plain{Things: slices.Clone(p.Things), Ever: slices.Clone(p.Ever)}
	for i := range out.Things {
		out.Things[i].Words = slices.Clone(out.Things[i].Words)
		out.Things[i].Maps = slices.Clone(out.Things[i].Maps)
	}
	for _, list := range p.Told {
		out.Told = append(out.Told, slices.Clone(list))
	}
	return out
}

func plainNewByWords(root impl.Handle) impl.PlainOut {
	if root.By != 0 {
		return impl.PlainOut{Code: impl.ErrForm}
	}
	told := make([][]impl.Handle, 16)
	told[0] = []impl.Handle{root}
	box := impl.Thing{Handle: root, Kind: impl.KdBox, Of: 0, Order: 5}
	return impl.PlainOut{Plain: impl.Plain{Things: []impl.Thing{box}, Told: told, Ever: []impl.Handle{root}}}
}

// thingIn is the thing of that name, if there is one.
func thingIn(p *impl.Plain, h impl.Handle) *impl.Thing {
	for i := range p.Things {
		if p.Things[i].Handle == h {
			return &p.Things[i]
		}
	}
	return nil
}

func plainNamed(p *impl.Plain, who int64, r impl.Ref) impl.Handle {
	if flowsByLetters(r.Label, who) && r.N < int64(len(p.Told[r.Label])) {
		return p.Told[r.Label][r.N]
	}
	return impl.Handle{By: 0, Id: 0, Gen: 3}
}

// isWithin tells whether one comes from a thing, from Up to Up, to that box; the root is in nothing.
func isWithin(p *impl.Plain, one impl.Thing, box impl.Handle) bool {
	for one.Handle != p.Things[0].Handle {
		if one.Up == box {
			return true
		}
		one = *thingIn(p, one.Up)
	}
	return false
}

// inBox are the things in a box, in the order in which they were made.
func inBox(p *impl.Plain, box impl.Handle) []impl.Thing {
	var out []impl.Thing
	for _, one := range p.Things[1:] {
		if one.Up == box {
			out = append(out, one)
		}
	}
	return out
}

func plainDoByWords(p impl.Plain, c impl.Call, r impl.Reply) impl.PlainOut {
	if !callRightByWords(c) || len(p.Things) > 400 || len(p.Ever) > 400 {
		return impl.PlainOut{Code: impl.ErrForm}
	}
	next := copyPlain(p)
	a, b := plainNamed(&next, c.Who, c.A), plainNamed(&next, c.Who, c.B)
	var fits bool
	switch {
	case c.Word == 1:
		fits = makeFits(&next, c, a, r)
	case c.Word <= 5:
		fits = equal(thingReply(&next, c, a), r)
	case c.Word <= 8:
		fits = equal(segReply(&next, c, a), r)
	case c.Word <= 10:
		fits = equal(mapReply(&next, c, a, b), r)
	default:
		fits = equal(lookReply(&next, c, a), r)
	}
	if !fits {
		return impl.PlainOut{Code: impl.ErrState}
	}
	return impl.PlainOut{Plain: next}
}

func makeFits(p *impl.Plain, c impl.Call, a impl.Handle, r impl.Reply) bool {
	if !between(c.X, 1, 3) || !between(c.Y, 0, 15) || !flowsByLetters(c.Who, c.Y) || c.Z > 5 || c.X == 3 && c.Z > 0 {
		return equal(r, impl.Reply{Code: impl.ErrForm})
	}
	if box := thingIn(p, a); box == nil || box.Kind != impl.KdBox || box.Of != c.Who {
		return equal(r, impl.Reply{Code: impl.ErrNone})
	}
	if equal(r, impl.Reply{Code: impl.ErrFull}) {
		return true
	}
	if !equal(r, impl.Reply{Handle: r.Handle}) || r.Handle.By != c.Who || slices.Contains(p.Ever, r.Handle) {
		return false
	}
	made := impl.Thing{Handle: r.Handle, Kind: c.X, Of: c.Y, Order: c.Z, Up: a}
	if made.Kind == impl.KdSeg {
		made.Words = make([]int64, 2*sizeOf(made.Order))
	}
	p.Things = append(p.Things, made)
	p.Told[c.Who] = append(p.Told[c.Who], r.Handle)
	p.Ever = append(p.Ever, r.Handle)
	return true
}

var toldNone = impl.Reply{Code: impl.ErrNone}

func thingReply(p *impl.Plain, c impl.Call, a impl.Handle) impl.Reply {
	one := thingIn(p, a)
	if one == nil {
		return toldNone
	}
	switch c.Word {
	case 2:
		if a.By != c.Who || one.Up == (impl.Handle{}) {
			return toldNone
		}
		before := copyPlain(*p)
		p.Things = slices.DeleteFunc(p.Things, func(some impl.Thing) bool {
			return some.Handle == a || isWithin(&before, some, a)
		})
		return impl.Reply{}
	case 3:
		if !flowsByLetters(a.By, c.Who) {
			return toldNone
		}
		return impl.Reply{N: one.Kind + 10*one.Order + 100*one.Of}
	}
	if one.Kind != impl.KdBox || !flowsByLetters(one.Of, c.Who) {
		return toldNone
	}
	var kids []impl.Handle
	room := sizeOf(one.Order)
	for _, kid := range inBox(p, a) {
		kids = append(kids, kid.Handle)
		if kid.Kind != impl.KdSpace {
			room -= sizeOf(kid.Order)
		}
	}
	if c.Word == 4 {
		return impl.Reply{Handles: kids}
	}
	return impl.Reply{N: room}
}

func segReply(p *impl.Plain, c impl.Call, a impl.Handle) impl.Reply {
	if c.Word != 6 && c.Y > 65535 {
		return impl.Reply{Code: impl.ErrForm}
	}
	one := thingIn(p, a)
	if one == nil || one.Kind != impl.KdSeg {
		return toldNone
	}
	if c.Word == 6 && !flowsByLetters(one.Of, c.Who) {
		return toldNone
	}
	if c.Word != 6 && !(flowsByLetters(a.By, c.Who) && flowsByLetters(c.Who, one.Of)) {
		return toldNone
	}
	if c.Word != 8 && c.X >= 2*sizeOf(one.Order) {
		return impl.Reply{Code: impl.ErrRange}
	}
	switch c.Word {
	case 6:
		return impl.Reply{N: one.Words[c.X]}
	case 7:
		one.Words[c.X] = c.Y
	case 8:
		for i := range one.Words {
			one.Words[i] = c.Y
		}
	}
	return impl.Reply{}
}

func mapReply(p *impl.Plain, c impl.Call, a impl.Handle, b impl.Handle) impl.Reply {
	if c.X > 7 || c.Word == 9 && c.Y > 31 {
		return impl.Reply{Code: impl.ErrForm}
	}
	one := thingIn(p, a)
	if one == nil || one.Kind != impl.KdSpace || !flowsByLetters(a.By, c.Who) || !flowsByLetters(c.Who, one.Of) {
		return toldNone
	}
	var maps []impl.Map
	for va := range int64(8) {
		for _, old := range one.Maps {
			if old.Va == va && va != c.X {
				maps = append(maps, old)
			}
		}
		if va == c.X && c.Word == 9 {
			maps = append(maps, impl.Map{Va: va, Seg: b, Page: c.Y})
		}
	}
	one.Maps = maps
	return impl.Reply{}
}

func lookReply(p *impl.Plain, c impl.Call, a impl.Handle) impl.Reply {
	if c.X > 7 || c.Y > 1 || c.Word == 12 && c.Z > 65535 {
		return impl.Reply{Code: impl.ErrForm}
	}
	one := thingIn(p, a)
	if one == nil || one.Kind != impl.KdSpace || one.Of != c.Who {
		return toldNone
	}
	for _, there := range one.Maps {
		if there.Va != c.X {
			continue
		}
		seg := thingIn(p, there.Seg)
		if seg == nil || seg.Kind != impl.KdSeg || there.Page >= sizeOf(seg.Order) {
			return toldNone
		}
		at := there.Page*2 + c.Y
		if c.Word == 11 && flowsByLetters(seg.Of, c.Who) {
			return impl.Reply{N: seg.Words[at]}
		}
		if c.Word == 12 && flowsByLetters(there.Seg.By, c.Who) && flowsByLetters(c.Who, seg.Of) {
			seg.Words[at] = c.Z
			return impl.Reply{}
		}
	}
	return toldNone
}

func explainsByWords(root impl.Handle, l []impl.Call, r []impl.Reply) bool {
	p := plainNewByWords(root)
	if p.Code != impl.OK || len(l) > 400 || len(l) != len(r) {
		return false
	}
	for i, c := range l {
		p = plainDoByWords(p.Plain, c, r[i])
		if p.Code != impl.OK {
			return false
		}
	}
	return true
}

// The calls of this layer, each held against the document's words; the answer is new memory, what is handed in stays.

func plainMade(t *testing.T, root impl.Handle) impl.PlainOut {
	t.Helper()
	got := impl.PlainNew(root)
	what := fmt.Sprintf("plain of %+v", root)
	alike(t, what, got, plainNewByWords(root))
	same(t, what+": no two lists are one", newMemory(got), true)
	return got
}

func plainDone(t *testing.T, p impl.Plain, c impl.Call, r impl.Reply) impl.PlainOut {
	t.Helper()
	plain, reply := copyPlain(p), fmt.Sprintf("%+v", r)
	got := impl.PlainDo(p, c, r)
	what := fmt.Sprintf("%+v told %+v", c, r)
	alike(t, what, got, plainDoByWords(p, c, r))
	same(t, what+": plain handed in, not changed", equal(p, plain), true)
	same(t, what+": reply handed in, not changed", fmt.Sprintf("%+v", r), reply)
	same(t, what+": new memory", newMemory(got, p, r), true)
	if got.Code != impl.OK {
		alike(t, what+": a code alone", got, impl.PlainOut{Code: got.Code})
	}
	return got
}

func explained(t *testing.T, root impl.Handle, l []impl.Call, r []impl.Reply) bool {
	t.Helper()
	calls, replies := slices.Clone(l), fmt.Sprintf("%+v", r)
	got := impl.Explains(root, l, r)
	same(t, "explains", got, explainsByWords(root, l, r))
	same(t, "calls handed in, not changed", slices.Equal(l, calls), true)
	same(t, "replies handed in, not changed", fmt.Sprintf("%+v", r) == replies, true)
	return got
}
