package tests

import (
	"fmt"
	"slices"
	"testing"

	"loop.example/g00740/impl"
)

// The calls of chapter 11, told once more by the document's words alone.

// bytesByWords are the bytes of numbers, one behind the other.
func bytesByWords(numbers ...int64) string {
	var out []byte
	for _, n := range numbers {
		u := uint64(n) * 2
		if n < 0 {
			u = uint64(-(n+1))*2 + 1
		}
		for ; u >= 128; u /= 128 {
			out = append(out, byte(u%128+128))
		}
		out = append(out, byte(u))
	}
	return string(out)
}

func purgeByWords(l []impl.Call, label int64) []impl.Call {
	if len(l) > 400 || !between(label, 0, 15) {
		return nil
	}
	return slices.DeleteFunc(slices.Clone(l), func(c impl.Call) bool {
		return !between(c.Who, 0, 15) || !flowsByLetters(c.Who, label)
	})
}

func keptByWords(l []impl.Call, r []impl.Reply, label int64) []impl.Reply {
	if len(l) > 400 || len(l) != len(r) || !between(label, 0, 15) {
		return nil
	}
	var out []impl.Reply
	for i, c := range l {
		if between(c.Who, 0, 15) && flowsByLetters(c.Who, label) {
			out = append(out, r[i])
		}
	}
	return out
}

func seenByWords(k impl.Kernel, label int64) string {
	if !kernelRightByWords(k) || !between(label, 0, 15) {
		return ""
	}
	var numbers []int64
	for by, a := range k.Arenas {
		if !flowsByLetters(int64(by), label) {
			continue
		}
		numbers = append(numbers, a.Names.Count, int64(len(a.Slots)))
		for _, one := range a.Slots {
			if !one.Live {
				numbers = append(numbers, one.Gen, 0)
				continue
			}
			o := one.Obj
			numbers = append(numbers, one.Gen, 1, one.Id, o.Kind, o.Of, o.Order, o.At, o.Up.By, o.Up.Id, o.Up.Gen)
			if flowsByLetters(o.Of, label) {
				numbers = append(numbers, insideNumbers(k, o)...)
			}
		}
	}
	return bytesByWords(numbers...)
}

// insideNumbers are what is in a thing, for whoever its Of flows to.
func insideNumbers(k impl.Kernel, o impl.Obj) []int64 {
	var out []int64
	switch o.Kind {
	case impl.KdBox:
		out = append(out, int64(len(o.Room.Free)))
		for _, one := range o.Room.Free {
			out = append(out, one.At, one.Order)
		}
		out = append(out, int64(len(o.Kids)))
		for _, kid := range o.Kids {
			out = append(out, kid.By, kid.Id, kid.Gen)
		}
	case impl.KdSeg:
		for i := o.At * 2; i < (o.At+sizeOf(o.Order))*2; i++ {
			out = append(out, k.Words[i])
		}
	case impl.KdSpace:
		out = append(out, int64(len(o.Maps)))
		for _, one := range o.Maps {
			out = append(out, one.Va, one.Seg.By, one.Seg.Id, one.Seg.Gen, one.Page)
		}
		out = append(out, int64(len(o.Fasts)))
		for _, one := range o.Fasts {
			out = append(out, one.Va, one.Seg.By, one.Seg.Id, one.Seg.Gen, one.Page, one.At)
		}
	}
	return out
}

func liveByWords(k impl.Kernel) []impl.Handle {
	if !kernelRightByWords(k) {
		return nil
	}
	return liveOf(k)
}

func spreadByWords(k impl.Kernel, h impl.Handle) []int64 {
	if !kernelRightByWords(k) || !isBox(slotOf(k, h)) {
		return nil
	}
	box := slotOf(k, h).Obj
	free := freeSet(box)
	var out []int64
	for page := range sizeOf(box.Order) {
		whose := int64(0)
		for i, kid := range box.Kids {
			o := slotOf(k, kid).Obj
			if !free[page] && hasPages(o) && between(box.At+page, o.At, o.At+sizeOf(o.Order)-1) {
				whose = int64(i + 1)
			}
		}
		out = append(out, whose)
	}
	return out
}

// The calls of this layer, each held against the document's words; the answer is new memory, what is handed in stays.

func purged(t *testing.T, l []impl.Call, label int64) []impl.Call {
	t.Helper()
	before := slices.Clone(l)
	got := impl.Purge(l, label)
	alike(t, "purge", got, purgeByWords(l, label))
	same(t, "purge: handed in, not changed", slices.Equal(l, before), true)
	same(t, "purge: new memory", newMemory(got, l), true)
	return got
}

func kept(t *testing.T, l []impl.Call, r []impl.Reply, label int64) []impl.Reply {
	t.Helper()
	calls, replies := slices.Clone(l), fmt.Sprintf("%+v", r)
	got := impl.Kept(l, r, label)
	alike(t, "kept", got, keptByWords(l, r, label))
	same(t, "kept: calls, not changed", slices.Equal(l, calls), true)
	same(t, "kept: replies, not changed", fmt.Sprintf("%+v", r), replies)
	same(t, "kept: new memory", newMemory(got, l, r), true)
	return got
}

func seen(t *testing.T, k impl.Kernel, label int64) string {
	t.Helper()
	before := copyKernel(k)
	got := impl.SeenBy(k, label)
	same(t, fmt.Sprint("seen by ", label), got, seenByWords(k, label))
	same(t, "seen: handed in, not changed", equal(k, before), true)
	return got
}

func lived(t *testing.T, k impl.Kernel) []impl.Handle {
	t.Helper()
	before := copyKernel(k)
	got := impl.LiveOf(k)
	alike(t, "live", got, liveByWords(k))
	same(t, "live: handed in, not changed", equal(k, before), true)
	same(t, "live: new memory", newMemory(got, k), true)
	return got
}

func spread(t *testing.T, k impl.Kernel, h impl.Handle) []int64 {
	t.Helper()
	before := copyKernel(k)
	got := impl.Spread(k, h)
	alike(t, fmt.Sprint("spread of ", h), got, spreadByWords(k, h))
	same(t, "spread: handed in, not changed", equal(k, before), true)
	same(t, "spread: new memory", newMemory(got, k), true)
	return got
}

// looked asks all of one kernel, right or not.
func looked(t *testing.T, k impl.Kernel) {
	t.Helper()
	for label := int64(-1); label <= 16; label++ {
		seen(t, k, label)
	}
	lived(t, k)
	for _, h := range append(liveOf(k), impl.Handle{}, impl.Handle{By: 1, Id: 2, Gen: 1}, impl.Handle{Gen: 3}, impl.Handle{By: 16}) {
		spread(t, k, h)
	}
}
