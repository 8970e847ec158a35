package tests

import (
	"math"
	"strings"
	"testing"

	"loop.example/g00740/impl"
)

// Promise 1. A text and its length must fit into MaxBytes to be read again.
func TestTextsComeBack(t *testing.T) {
	for _, many := range []int{0, 1, 2, 63, 64, 65, 255, 256, 257, 4000, 7997, impl.MaxBytes - 2} {
		in := long(many)
		text := impl.PutText(in)
		same(t, "PutText", text, impl.PutNum(int64(many))+in)
		same(t, "alone", impl.GetText(text, 0), impl.TextOut{Text: in, At: int64(len(text))})
		if len(text)+3 <= impl.MaxBytes {
			same(t, "between others", impl.GetText("\xff\xff"+text+"x", 2), impl.TextOut{Text: in, At: int64(len(text)) + 2})
		}
	}
}

func TestTextsInARow(t *testing.T) {
	texts := []string{"", "a", "\x00", "\xff\xfe", "what is heard", long(300), ""}
	all := ""
	for _, in := range texts {
		all += impl.PutText(in)
	}
	at := int64(0)
	for _, in := range texts {
		out := impl.GetText(all, at)
		same(t, "code", out.Code, int64(impl.OK))
		same(t, "text", out.Text, in)
		at = out.At
	}
	same(t, "end", at, int64(len(all)))
}

func TestPutTextLimits(t *testing.T) {
	most := long(impl.MaxBytes)
	same(t, "MaxBytes", impl.PutText(most), "\x80\x7d"+most)
	same(t, "what does not fit in", impl.GetText(impl.PutText(most), 0), impl.TextOut{Code: impl.ErrSize})
	same(t, "one byte more", impl.PutText(long(impl.MaxBytes+1)), "")
	same(t, "empty", impl.PutText(""), "\x00")
}

func TestGetTextFaults(t *testing.T) {
	num := impl.PutNum
	for _, c := range []struct {
		what string
		text string
		at   int64
		code int64
	}{
		{"a length of -1", num(-1) + "ab", 0, impl.ErrSyntax},
		{"a length of -1 at the end", num(-1), 0, impl.ErrSyntax},
		{"the least length", num(math.MinInt64), 0, impl.ErrSyntax},
		{"the greatest length", num(math.MaxInt64), 0, impl.ErrSyntax},
		{"a length above MaxBytes", num(impl.MaxBytes+1) + "ab", 0, impl.ErrSyntax},
		{"a length of MaxBytes", num(impl.MaxBytes) + "ab", 0, impl.ErrShort},
		{"MaxBytes in a text of MaxBytes", num(impl.MaxBytes) + long(impl.MaxBytes-2), 0, impl.ErrShort},
		{"one byte too few", num(3) + "ab", 0, impl.ErrShort},
		{"no byte", num(1), 0, impl.ErrShort},
		{"one byte too few from a place on", "xy" + num(3) + "ab", 2, impl.ErrShort},
		{"a length with too many bytes", "\x84\x00ab", 0, impl.ErrSyntax},
		{"too long a text", num(2) + long(impl.MaxBytes), 0, impl.ErrSize},
	} {
		same(t, c.what, impl.GetText(c.text, c.at), impl.TextOut{Code: c.code})
	}
	same(t, "an empty text at the end", impl.GetText("ab\x00", 2), impl.TextOut{At: 3})
	same(t, "all there is", impl.GetText("\x06abc", 0), impl.TextOut{Text: "abc", At: 4})
	same(t, "not the rest", impl.GetText("\x04abc", 0), impl.TextOut{Text: "ab", At: 3})
}

func TestTextsAreNewMemory(t *testing.T) {
	in := long(200)
	put := impl.PutText(in)
	sealed := impl.Seal(in)
	if sharesText(put, in) || sharesText(sealed, in) {
		t.Error("what is put shares memory with what was handed in")
	}
	if sharesText(impl.GetText(put, 0).Text, put) {
		t.Error("GetText shares memory with its text")
	}
	if sharesText(impl.Unseal(sealed).Text, sealed) {
		t.Error("Unseal shares memory with its text")
	}
}

func TestNameRight(t *testing.T) {
	for _, name := range []string{"a", "z", "a_9", "a0", "m__", "box", "z_z9", strings.Repeat("a", 20), "a" + strings.Repeat("_", 19)} {
		same(t, name, impl.NameRight(name), true)
	}
	for _, text := range []string{"", "_a", "_", "9", "0a", "A", "aB", "a b", " a", "a ", "a-", "a.b", "\x00", "a\x00", "a\n", "ä", "aä", strings.Repeat("a", 21), strings.Repeat("a", impl.MaxBytes), strings.Repeat("a", impl.MaxBytes+1)} {
		same(t, text, impl.NameRight(text), false)
	}
}

func TestNameRightByteByByte(t *testing.T) {
	const letters = "abcdefghijklmnopqrstuvwxyz"
	for b := range 256 {
		c := string([]byte{byte(b)})
		same(t, "first byte", impl.NameRight(c), strings.Contains(letters, c))
		for _, name := range []string{"x" + c, "x" + c + "x", strings.Repeat("x", 19) + c} {
			same(t, "later byte", impl.NameRight(name), strings.Contains(letters+"0123456789_", c))
		}
	}
}
