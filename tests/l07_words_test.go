package tests

import (
	"testing"

	"loop.example/g00740/impl"
)

// The calls of chapter 8, told once more by the document's words alone.

func isSeg(one *impl.Slot) bool {
	return one != nil && one.Obj.Kind == impl.KdSeg
}

// spanOf are the places of the first word of a segment, and of the one behind its last one.
func spanOf(k impl.Kernel, h impl.Handle) (int64, int64) {
	o := slotOf(k, h).Obj
	return o.At * 2, (o.At + sizeOf(o.Order)) * 2
}

func peekByWords(k impl.Kernel, who int64, h impl.Handle, i int64) impl.KernOut {
	if !kernelRightByWords(k) || !impl.LabelRight(who) {
		return impl.KernOut{Code: impl.ErrForm}
	}
	one := slotOf(k, h)
	if !isSeg(one) || !flowsByLetters(one.Obj.Of, who) {
		return impl.KernOut{Code: impl.ErrNone}
	}
	from, to := spanOf(k, h)
	if i < 0 || i >= to-from {
		return impl.KernOut{Code: impl.ErrRange}
	}
	return impl.KernOut{Kernel: k, N: k.Words[from+i]}
}

// writeFaultByWords is the first fault of a call that writes, but for ErrRange.
func writeFaultByWords(k impl.Kernel, who int64, h impl.Handle, v int64) int64 {
	if !kernelRightByWords(k) || !impl.LabelRight(who) || v < 0 || v > 65535 {
		return impl.ErrForm
	}
	one := slotOf(k, h)
	if !isSeg(one) || !flowsByLetters(h.By, who) || !flowsByLetters(who, one.Obj.Of) {
		return impl.ErrNone
	}
	return impl.OK
}

func pokeByWords(k impl.Kernel, who int64, h impl.Handle, i int64, v int64) impl.KernOut {
	if code := writeFaultByWords(k, who, h, v); code != impl.OK {
		return impl.KernOut{Code: code}
	}
	from, to := spanOf(k, h)
	if i < 0 || i >= to-from {
		return impl.KernOut{Code: impl.ErrRange}
	}
	k = copyKernel(k)
	k.Words[from+i] = v
	return impl.KernOut{Kernel: k}
}

func fillByWords(k impl.Kernel, who int64, h impl.Handle, v int64) impl.KernOut {
	if code := writeFaultByWords(k, who, h, v); code != impl.OK {
		return impl.KernOut{Code: code}
	}
	k = copyKernel(k)
	from, to := spanOf(k, h)
	for at := from; at < to; at++ {
		k.Words[at] = v
	}
	return impl.KernOut{Kernel: k}
}

// segsOf are the names of all segments, by labels and slots.
func segsOf(k impl.Kernel) []impl.Handle {
	var out []impl.Handle
	for _, h := range liveOf(k) {
		if isSeg(slotOf(k, h)) {
			out = append(out, h)
		}
	}
	return out
}

// peeked are all words of a segment, looked at one by one by a label to which all flow.
func peeked(t *testing.T, k impl.Kernel, h impl.Handle) []int64 {
	t.Helper()
	var out []int64
	for i := int64(0); ; i++ {
		got := impl.Peek(k, 15, h, i)
		if got.Code != impl.OK {
			faulted(t, "behind the last word", got, impl.ErrRange)
			return out
		}
		out = append(out, got.N)
	}
}

// written is the kernel of an answer that is k, but for these words from that place on.
func written(t *testing.T, what string, got impl.KernOut, k impl.Kernel, from int64, words ...int64) impl.Kernel {
	t.Helper()
	want := copyKernel(k)
	copy(want.Words[from:], words)
	alike(t, what, got, impl.KernOut{Kernel: want})
	same(t, what+": new memory", newMemory(got, k), true)
	return got.Kernel
}

// times is a list of the same word again and again.
func times(many int64, v int64) []int64 {
	out := make([]int64, many)
	for i := range out {
		out[i] = v
	}
	return out
}
