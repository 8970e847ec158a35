package tests

import (
	"encoding/binary"
	"math"
	"strings"
	"testing"

	"loop.example/g00740/impl"
)

// edgeNums are the numbers around each change of length, and the ends of int64.
func edgeNums() []int64 {
	nums := []int64{math.MinInt64, math.MinInt64 + 1, math.MaxInt64, math.MaxInt64 - 1}
	for shift := range 63 {
		p := int64(1) << shift
		nums = append(nums, p-1, p, p+1, -p-1, -p, -p+1)
	}
	for n := int64(-300); n <= 300; n++ {
		nums = append(nums, n)
	}
	return nums
}

// Promise 1.
func TestNumbersComeBack(t *testing.T) {
	for _, n := range edgeNums() {
		text := impl.PutNum(n)
		same(t, "PutNum", text, string(binary.AppendVarint(nil, n)))
		same(t, "alone", impl.GetNum(text, 0), impl.NumOut{N: n, At: int64(len(text))})
		same(t, "between others", impl.GetNum("\x80\xff"+text+"\xff", 2), impl.NumOut{N: n, At: int64(len(text)) + 2})
	}
}

func TestPutNumBytes(t *testing.T) {
	for _, c := range []struct {
		n    int64
		text string
	}{
		{0, "\x00"}, {-1, "\x01"}, {1, "\x02"}, {-64, "\x7f"}, {63, "\x7e"},
		{64, "\x80\x01"}, {-65, "\x81\x01"}, {300, "\xd8\x04"},
		{1<<62 - 1, "\xfe\xff\xff\xff\xff\xff\xff\xff\x7f"},
		{1 << 62, "\x80\x80\x80\x80\x80\x80\x80\x80\x80\x01"},
		{math.MaxInt64, "\xfe\xff\xff\xff\xff\xff\xff\xff\xff\x01"},
		{math.MinInt64, "\xff\xff\xff\xff\xff\xff\xff\xff\xff\x01"},
	} {
		same(t, "PutNum", impl.PutNum(c.n), c.text)
		same(t, "GetNum", impl.GetNum(c.text, 0), impl.NumOut{N: c.n, At: int64(len(c.text))})
	}
}

func TestNumbersInARow(t *testing.T) {
	nums := edgeNums()
	var all strings.Builder
	for _, n := range nums {
		all.WriteString(impl.PutNum(n))
	}
	at := int64(0)
	for _, n := range nums {
		out := impl.GetNum(all.String(), at)
		same(t, "code", out.Code, int64(impl.OK))
		same(t, "number", out.N, n)
		at = out.At
	}
	same(t, "end", at, int64(all.Len()))
}

func TestGetNumFaults(t *testing.T) {
	high := func(many int) string { return strings.Repeat("\x80", many) }
	full := func(many int) string { return strings.Repeat("\xff", many) }
	for _, c := range []struct {
		what string
		text string
		at   int64
		code int64
	}{
		{"at below 0", "\x00", -1, impl.ErrForm},
		{"at far below 0", "\x00", math.MinInt64, impl.ErrForm},
		{"at below 0 of the empty text", "", -1, impl.ErrForm},
		{"empty text", "", 0, impl.ErrShort},
		{"at the end", "\x00\x00", 2, impl.ErrShort},
		{"behind the end", "\x00\x00", 3, impl.ErrShort},
		{"far behind the end", "\x00\x00", math.MaxInt64, impl.ErrShort},
		{"one byte, and more to come", high(1), 0, impl.ErrShort},
		{"nine bytes, and more to come", high(9), 0, impl.ErrShort},
		{"nine bytes from a place on", "\x00" + full(9), 1, impl.ErrShort},
		{"a tenth byte of 0", high(9) + "\x00", 0, impl.ErrSyntax},
		{"a tenth byte of 2", high(9) + "\x02", 0, impl.ErrSyntax},
		{"a tenth byte of 3", full(9) + "\x03", 0, impl.ErrSyntax},
		{"a tenth byte of 127", full(9) + "\x7f", 0, impl.ErrSyntax},
		{"a tenth byte of 128", high(10), 0, impl.ErrSyntax},
		{"a tenth byte of 129", high(9) + "\x81", 0, impl.ErrSyntax},
		{"an eleventh byte", high(10) + "\x01", 0, impl.ErrSyntax},
		{"a tenth byte of 255 at the end", full(10), 0, impl.ErrSyntax},
		{"nought in two bytes", "\x80\x00", 0, impl.ErrSyntax},
		{"one in two bytes", "\x82\x00", 0, impl.ErrSyntax},
		{"three bytes for two", "\x80\x81\x00", 0, impl.ErrSyntax},
		{"nine bytes for eight", full(8) + "\x00", 0, impl.ErrSyntax},
		{"too long a text", high(impl.MaxBytes + 1), 0, impl.ErrSize},
		{"too long a text, at below 0", high(impl.MaxBytes + 1), -1, impl.ErrSize},
		{"too long a text, at behind it", high(impl.MaxBytes + 1), math.MaxInt64, impl.ErrSize},
		{"too long a text that begins well", strings.Repeat("\x02", impl.MaxBytes+1), 0, impl.ErrSize},
	} {
		same(t, c.what, impl.GetNum(c.text, c.at), impl.NumOut{Code: c.code})
		same(t, c.what+", as a text", impl.GetText(c.text, c.at), impl.TextOut{Code: c.code})
	}
}

func TestGetNumInALongText(t *testing.T) {
	text := strings.Repeat("\x02", impl.MaxBytes)
	same(t, "first", impl.GetNum(text, 0), impl.NumOut{N: 1, At: 1})
	same(t, "last", impl.GetNum(text, impl.MaxBytes-1), impl.NumOut{N: 1, At: impl.MaxBytes})
	same(t, "behind", impl.GetNum(text, impl.MaxBytes), impl.NumOut{Code: impl.ErrShort})
}

// wantNum says by the document's words what stands at the beginning of a text.
func wantNum(text string) impl.NumOut {
	u := uint64(0)
	for i := range len(text) {
		if i == 9 && text[i] > 1 {
			return impl.NumOut{Code: impl.ErrSyntax}
		}
		u += uint64(text[i]%128) << (7 * i)
		if text[i] >= 128 {
			continue
		}
		if i > 0 && text[i] == 0 {
			return impl.NumOut{Code: impl.ErrSyntax}
		}
		if u%2 == 1 {
			return impl.NumOut{N: -int64(u/2) - 1, At: int64(i) + 1}
		}
		return impl.NumOut{N: int64(u / 2), At: int64(i) + 1}
	}
	return impl.NumOut{Code: impl.ErrShort}
}

func TestGetNumOfAllShortTexts(t *testing.T) {
	edges := []byte{0, 1, 2, 3, 63, 64, 126, 127, 128, 129, 130, 254, 255}
	for a := range 256 {
		one := string([]byte{byte(a)})
		same(t, "one byte", impl.GetNum(one, 0), wantNum(one))
		for b := range 256 {
			two := string([]byte{byte(a), byte(b)})
			same(t, "two bytes", impl.GetNum(two, 0), wantNum(two))
		}
	}
	for _, front := range edges {
		for many := 1; many <= 10; many++ {
			for last := range 256 {
				text := strings.Repeat(string([]byte{front}), many) + string([]byte{byte(last)})
				same(t, "alike but for the last", impl.GetNum(text, 0), wantNum(text))
			}
		}
	}
}
