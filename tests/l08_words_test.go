package tests

import (
	"slices"
	"testing"

	"loop.example/g00740/impl"
)

// The calls of chapter 9, told once more by the document's words alone, over lists that are gone through one by one.

func isSpace(one *impl.Slot) bool {
	return one != nil && one.Obj.Kind == impl.KdSpace
}

// spacesOf are the names of all spaces, by labels and slots.
func spacesOf(k impl.Kernel) []impl.Handle {
	return slices.DeleteFunc(liveOf(k), func(h impl.Handle) bool { return !isSpace(slotOf(k, h)) })
}

// mapOf and fastOf are that of a Va, or nil.
func mapOf(o *impl.Obj, va int64) *impl.Map {
	for i := range o.Maps {
		if o.Maps[i].Va == va {
			return &o.Maps[i]
		}
	}
	return nil
}

func fastOf(o *impl.Obj, va int64) *impl.Fast {
	for i := range o.Fasts {
		if o.Fasts[i].Va == va {
			return &o.Fasts[i]
		}
	}
	return nil
}

func withoutFast(o *impl.Obj, va int64) {
	o.Fasts = slices.DeleteFunc(o.Fasts, func(one impl.Fast) bool { return one.Va == va })
}

func putFast(o *impl.Obj, one impl.Fast) {
	o.Fasts = append(o.Fasts, one)
	slices.SortFunc(o.Fasts, func(a, b impl.Fast) int { return int(a.Va - b.Va) })
}

// mapByWords is MapIn, or, without a Map, MapOut.
func mapByWords(k impl.Kernel, who int64, s impl.Handle, va int64, in []impl.Map) impl.KernOut {
	if !kernelRightByWords(k) || !impl.LabelRight(who) || va < 0 || va > 7 {
		return impl.KernOut{Code: impl.ErrForm}
	}
	for _, one := range in {
		if one.Page < 0 || one.Page > 31 {
			return impl.KernOut{Code: impl.ErrForm}
		}
	}
	one := slotOf(k, s)
	if !isSpace(one) || !flowsByLetters(s.By, who) || !flowsByLetters(who, one.Obj.Of) {
		return impl.KernOut{Code: impl.ErrNone}
	}
	k = copyKernel(k)
	o := &slotOf(k, s).Obj
	withoutFast(o, va)
	o.Maps = slices.DeleteFunc(o.Maps, func(one impl.Map) bool { return one.Va == va })
	o.Maps = append(o.Maps, in...)
	slices.SortFunc(o.Maps, func(a, b impl.Map) int { return int(a.Va - b.Va) })
	return impl.KernOut{Kernel: k}
}

func mapInByWords(k impl.Kernel, who int64, s impl.Handle, va int64, seg impl.Handle, page int64) impl.KernOut {
	return mapByWords(k, who, s, va, []impl.Map{{Va: va, Seg: seg, Page: page}})
}

func mapOutByWords(k impl.Kernel, who int64, s impl.Handle, va int64) impl.KernOut {
	return mapByWords(k, who, s, va, nil)
}

// accessByWords is what Load and Store have alike: the kernel with the Fast, and the number of the word.
func accessByWords(k impl.Kernel, who int64, s impl.Handle, va int64, i int64, store bool) (impl.KernOut, int64) {
	if !kernelRightByWords(k) || !impl.LabelRight(who) || va < 0 || va > 7 || i < 0 || i > 1 {
		return impl.KernOut{Code: impl.ErrForm}, 0
	}
	none := impl.KernOut{Code: impl.ErrNone}
	if !isSpace(slotOf(k, s)) || slotOf(k, s).Obj.Of != who || mapOf(&slotOf(k, s).Obj, va) == nil {
		return none, 0
	}
	k = copyKernel(k)
	o := &slotOf(k, s).Obj
	if fast := fastOf(o, va); fast != nil && slotOf(k, fast.Seg) == nil {
		withoutFast(o, va)
		return impl.KernOut{Kernel: k, Code: impl.ErrNone}, 0
	}
	one := *mapOf(o, va)
	seg := slotOf(k, one.Seg)
	if !isSeg(seg) || one.Page >= sizeOf(seg.Obj.Order) {
		return none, 0
	}
	if store && (!flowsByLetters(one.Seg.By, who) || !flowsByLetters(who, seg.Obj.Of)) {
		return none, 0
	}
	if !store && !flowsByLetters(seg.Obj.Of, who) {
		return none, 0
	}
	if fastOf(o, va) == nil {
		putFast(o, impl.Fast{Va: va, Seg: one.Seg, Page: one.Page, At: seg.Obj.At + one.Page})
	}
	return impl.KernOut{Kernel: k}, fastOf(o, va).At*2 + i
}

func loadByWords(k impl.Kernel, who int64, s impl.Handle, va int64, i int64) impl.KernOut {
	out, at := accessByWords(k, who, s, va, i, false)
	if out.Code == impl.OK {
		out.N = out.Kernel.Words[at]
	}
	return out
}

func storeByWords(k impl.Kernel, who int64, s impl.Handle, va int64, i int64, v int64) impl.KernOut {
	if v < 0 || v > 65535 {
		return impl.KernOut{Code: impl.ErrForm}
	}
	out, at := accessByWords(k, who, s, va, i, true)
	if out.Code == impl.OK {
		out.Kernel.Words[at] = v
	}
	return out
}

func staleByWords(k impl.Kernel, s impl.Handle) []int64 {
	if !kernelRightByWords(k) || !isSpace(slotOf(k, s)) {
		return nil
	}
	var out []int64
	for _, one := range slotOf(k, s).Obj.Fasts {
		if slotOf(k, one.Seg) == nil {
			out = append(out, one.Va)
		}
	}
	return out
}

// The calls of this layer, each held against the document's words; the answer is new memory, what is handed in stays.

func mappedIn(t *testing.T, k impl.Kernel, who int64, s impl.Handle, va int64, seg impl.Handle, page int64) impl.KernOut {
	t.Helper()
	return heldKern(t, "map in", k, func() impl.KernOut { return impl.MapIn(k, who, s, va, seg, page) }, mapInByWords(k, who, s, va, seg, page))
}

func mappedOut(t *testing.T, k impl.Kernel, who int64, s impl.Handle, va int64) impl.KernOut {
	t.Helper()
	return heldKern(t, "map out", k, func() impl.KernOut { return impl.MapOut(k, who, s, va) }, mapOutByWords(k, who, s, va))
}

func loaded(t *testing.T, k impl.Kernel, who int64, s impl.Handle, va int64, i int64) impl.KernOut {
	t.Helper()
	return heldKern(t, "load", k, func() impl.KernOut { return impl.Load(k, who, s, va, i) }, loadByWords(k, who, s, va, i))
}

func stored(t *testing.T, k impl.Kernel, who int64, s impl.Handle, va int64, i int64, v int64) impl.KernOut {
	t.Helper()
	return heldKern(t, "store", k, func() impl.KernOut { return impl.Store(k, who, s, va, i, v) }, storeByWords(k, who, s, va, i, v))
}

// heldKern is the answer of a call on k, that must be this one.
func heldKern(t *testing.T, what string, k impl.Kernel, call func() impl.KernOut, want impl.KernOut) impl.KernOut {
	t.Helper()
	before := copyKernel(k)
	got := call()
	alike(t, what, got, want)
	alike(t, what+": handed in, not changed", k, before)
	same(t, what+": new memory", newMemory(got, k), true)
	if len(got.Kernel.Arenas) > 0 {
		same(t, what+": right", impl.KernelRight(got.Kernel), true)
	}
	return got
}

// done is the kernel of an answer that must be OK.
func done(t *testing.T, out impl.KernOut) impl.Kernel {
	t.Helper()
	if out.Code != impl.OK {
		t.Fatalf("code %d", out.Code)
	}
	return out.Kernel
}
