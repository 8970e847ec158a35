package tests

import (
	"slices"

	"loop.example/g00740/impl"
)

// The calls of chapter 7, told once more by the document's words alone, over slots that are gone through one by one.

// slotOf is the Live slot of that name, whatever kernel it is.
func slotOf(k impl.Kernel, h impl.Handle) *impl.Slot {
	for i := range k.Arenas {
		for j := range k.Arenas[i].Slots {
			one := &k.Arenas[i].Slots[j]
			if one.Live && k.Arenas[i].Label == h.By && one.Id == h.Id && one.Gen == h.Gen {
				return one
			}
		}
	}
	return nil
}

// liveOf are the names of all that is Live, by labels and slots.
func liveOf(k impl.Kernel) []impl.Handle {
	var out []impl.Handle
	for _, a := range k.Arenas {
		for _, one := range a.Slots {
			if one.Live {
				out = append(out, impl.Handle{By: a.Label, Id: one.Id, Gen: one.Gen})
			}
		}
	}
	return out
}

func copyKernel(k impl.Kernel) impl.Kernel {
	out := impl.Kernel{Seed: k.Seed, Words: slices.Clone(k.Words)}
	for _, a := range k.Arenas {
		out.Arenas = append(out.Arenas, copyArena(a))
	}
	return out
}

func isBox(one *impl.Slot) bool {
	return one != nil && one.Obj.Kind == impl.KdBox
}

func hasPages(o impl.Obj) bool {
	return o.Kind == impl.KdBox || o.Kind == impl.KdSeg
}

func rootByWords(k impl.Kernel) impl.Handle {
	first := k.Arenas[0].Slots[0]
	return impl.Handle{Id: first.Id, Gen: first.Gen}
}

func kernelRightByWords(k impl.Kernel) bool {
	if k.Seed < 0 || k.Seed > 65535 || len(k.Arenas) != 16 || len(k.Words) != 64 {
		return false
	}
	for l, a := range k.Arenas {
		if !arenaRightByWords(a) || a.Label != int64(l) || a.Names.Key != (k.Seed*31+int64(l)*977+7)%65536 {
			return false
		}
	}
	for _, word := range k.Words {
		if word < 0 || word > 65535 {
			return false
		}
	}
	if len(k.Arenas[0].Slots) == 0 || !k.Arenas[0].Slots[0].Live {
		return false
	}
	root := k.Arenas[0].Slots[0].Obj
	if root.Kind != impl.KdBox || root.Of != 0 || root.Order != 5 || root.At != 0 || root.Up != (impl.Handle{}) {
		return false
	}
	for _, h := range liveOf(k) {
		if !thingRightByWords(k, h) || h != rootByWords(k) && !upRightByWords(k, h) {
			return false
		}
	}
	return true
}

func upRightByWords(k impl.Kernel, h impl.Handle) bool {
	o := slotOf(k, h).Obj
	up := slotOf(k, o.Up)
	if !impl.LabelRight(o.Of) || !flowsByLetters(h.By, o.Of) || !isBox(up) || up.Obj.Of != h.By || !slices.Contains(up.Obj.Kids, h) {
		return false
	}
	seen := map[impl.Handle]bool{}
	for h != rootByWords(k) {
		one := slotOf(k, h)
		if one == nil || seen[h] {
			return false
		}
		seen[h] = true
		h = one.Obj.Up
	}
	return true
}

func thingRightByWords(k impl.Kernel, h impl.Handle) bool {
	o := slotOf(k, h).Obj
	noRoom := o.Room.Order == 0 && len(o.Room.Free) == 0
	switch o.Kind {
	case impl.KdBox:
		return boxRightByWords(k, h, o) && len(o.Maps) == 0 && len(o.Fasts) == 0
	case impl.KdSeg:
		return o.Order >= 0 && o.Order <= 5 && noRoom && len(o.Kids) == 0 && len(o.Maps) == 0 && len(o.Fasts) == 0
	case impl.KdSpace:
		return o.Order == 0 && o.At == 0 && noRoom && len(o.Kids) == 0 && spaceRightByWords(o)
	}
	return false
}

func boxRightByWords(k impl.Kernel, h impl.Handle, o impl.Obj) bool {
	if o.Order < 0 || o.Order > 5 || !rightByWords(o.Room) || o.Room.Order != o.Order {
		return false
	}
	times := make([]int, sizeOf(o.Order))
	for _, one := range o.Room.Free {
		for page := one.At; page < one.At+sizeOf(one.Order); page++ {
			times[page]++
		}
	}
	for i, kid := range o.Kids {
		one := slotOf(k, kid)
		// The root's Up, the zero Handle, is none: the root is in nothing.
		if one == nil || one.Obj.Up != h || slices.Contains(o.Kids[:i], kid) || kid == rootByWords(k) {
			return false
		}
		if !hasPages(one.Obj) {
			continue
		}
		if one.Obj.Order < 0 || one.Obj.Order > o.Order || one.Obj.At < o.At {
			return false
		}
		size := sizeOf(one.Obj.Order)
		from := one.Obj.At - o.At
		if from < 0 || from > sizeOf(o.Order)-size || from%size != 0 {
			return false
		}
		for page := from; page < from+size; page++ {
			times[page]++
		}
	}
	return !slices.ContainsFunc(times, func(n int) bool { return n != 1 })
}

func spaceRightByWords(o impl.Obj) bool {
	for i, one := range o.Maps {
		if one.Va < 0 || one.Va > 7 || one.Page < 0 || one.Page > 31 || i > 0 && o.Maps[i-1].Va >= one.Va {
			return false
		}
	}
	for i, one := range o.Fasts {
		there := false
		for _, slow := range o.Maps {
			there = there || slow.Va == one.Va && slow.Seg == one.Seg && slow.Page == one.Page
		}
		if !there || one.At < 0 || one.At > 31 || i > 0 && o.Fasts[i-1].Va >= one.Va {
			return false
		}
	}
	return true
}

// freeSet are the free pages of a box, as a set that knows of no blocks.
func freeSet(o impl.Obj) pageSet {
	set := make(pageSet, sizeOf(o.Order))
	for _, one := range o.Room.Free {
		set = set.fill(one.At, sizeOf(one.Order), true)
	}
	return set
}

func kernelNewByWords(seed int64) impl.KernOut {
	if seed < 0 || seed > 65535 {
		return impl.KernOut{Code: impl.ErrForm}
	}
	out := impl.KernOut{Kernel: impl.Kernel{Seed: seed, Words: make([]int64, 64)}}
	for l := int64(0); l <= 15; l++ {
		out.Kernel.Arenas = append(out.Kernel.Arenas, impl.Arena{Label: l, Names: impl.Stream{Key: (seed*31 + l*977 + 7) % 65536}})
	}
	first := &out.Kernel.Arenas[0]
	out.Handle = impl.Handle{Id: permuteByWords(first.Names.Key, 0)}
	first.Names.Count = 1
	root := impl.Obj{Kind: impl.KdBox, Order: 5, Room: impl.Buddy{Order: 5, Free: []impl.Block{{Order: 5}}}}
	first.Slots = []impl.Slot{{Live: true, Id: out.Handle.Id, Obj: root}}
	return out
}

func makeByWords(k impl.Kernel, who int64, box impl.Handle, kind int64, of int64, order int64) impl.KernOut {
	if !kernelRightByWords(k) || !impl.LabelRight(who) || kind < 1 || kind > 3 || !impl.LabelRight(of) ||
		!flowsByLetters(who, of) || order < 0 || order > 5 || kind == impl.KdSpace && order != 0 {
		return impl.KernOut{Code: impl.ErrForm}
	}
	if up := slotOf(k, box); !isBox(up) || up.Obj.Of != who {
		return impl.KernOut{Code: impl.ErrNone}
	}
	k = copyKernel(k)
	up := &slotOf(k, box).Obj
	made := impl.Obj{Kind: kind, Of: of, Order: order, Up: box}
	if kind != impl.KdSpace {
		set := freeSet(*up)
		at, there := set.taken(order)
		if !there {
			return impl.KernOut{Code: impl.ErrFull}
		}
		up.Room = set.fill(at, sizeOf(order), false).buddy(up.Order)
		made.At = up.At + at
	}
	if kind == impl.KdBox {
		made.Room = impl.Buddy{Order: order, Free: []impl.Block{{Order: order}}}
	}
	put := putByWords(k.Arenas[who], made)
	if put.Code != impl.OK {
		return impl.KernOut{Code: put.Code}
	}
	k.Arenas[who] = put.Arena
	up = &slotOf(k, box).Obj
	up.Kids = append(up.Kids, put.Handle)
	if kind == impl.KdSeg {
		for i := made.At * 2; i < (made.At+sizeOf(order))*2; i++ {
			k.Words[i] = 0
		}
	}
	return impl.KernOut{Kernel: k, Handle: put.Handle}
}

// withinByWords are a thing and all that is in it, in that, and so on.
func withinByWords(k impl.Kernel, h impl.Handle) []impl.Handle {
	out := []impl.Handle{h}
	for _, kid := range slotOf(k, h).Obj.Kids {
		out = append(out, withinByWords(k, kid)...)
	}
	return out
}

func dropThingByWords(k impl.Kernel, who int64, h impl.Handle) impl.KernOut {
	if !kernelRightByWords(k) || !impl.LabelRight(who) {
		return impl.KernOut{Code: impl.ErrForm}
	}
	if slotOf(k, h) == nil || h.By != who || h == rootByWords(k) {
		return impl.KernOut{Code: impl.ErrNone}
	}
	k = copyKernel(k)
	o := slotOf(k, h).Obj
	up := &slotOf(k, o.Up).Obj
	if hasPages(o) {
		up.Room = freeSet(*up).fill(o.At-up.At, sizeOf(o.Order), true).buddy(up.Order)
	}
	place := slices.Index(up.Kids, h)
	up.Kids = append(up.Kids[:place], up.Kids[place+1:]...)
	for _, gone := range withinByWords(k, h) {
		one := slotOf(k, gone)
		*one = impl.Slot{Gen: one.Gen + 1}
	}
	return impl.KernOut{Kernel: k}
}

func infoByWords(k impl.Kernel, who int64, h impl.Handle) impl.KernOut {
	if !kernelRightByWords(k) || !impl.LabelRight(who) {
		return impl.KernOut{Code: impl.ErrForm}
	}
	one := slotOf(k, h)
	if one == nil || !flowsByLetters(h.By, who) {
		return impl.KernOut{Code: impl.ErrNone}
	}
	return impl.KernOut{Kernel: k, N: one.Obj.Kind + 10*one.Obj.Order + 100*one.Obj.Of}
}

// insideByWords are the answers of KidsOf and RoomOf.
func insideByWords(k impl.Kernel, who int64, h impl.Handle) (impl.KernOut, impl.KernOut) {
	if !kernelRightByWords(k) || !impl.LabelRight(who) {
		return impl.KernOut{Code: impl.ErrForm}, impl.KernOut{Code: impl.ErrForm}
	}
	one := slotOf(k, h)
	if !isBox(one) || !flowsByLetters(one.Obj.Of, who) {
		return impl.KernOut{Code: impl.ErrNone}, impl.KernOut{Code: impl.ErrNone}
	}
	free := len(freeSet(one.Obj).pages())
	return impl.KernOut{Kernel: k, Handles: one.Obj.Kids}, impl.KernOut{Kernel: k, N: int64(free)}
}

func thingByWords(k impl.Kernel, h impl.Handle) impl.Obj {
	if one := slotOf(k, h); one != nil && kernelRightByWords(k) {
		return one.Obj
	}
	return impl.Obj{}
}
