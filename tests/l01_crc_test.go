package tests

import (
	"hash/crc32"
	"math"
	"strings"
	"testing"

	"loop.example/g00740/impl"
)

func TestCrc(t *testing.T) {
	same(t, "nine digits", impl.Crc("123456789"), int64(3421780262))
	same(t, "empty", impl.Crc(""), int64(0))
	for b := range 256 {
		one := string([]byte{byte(b)})
		same(t, "one byte", impl.Crc(one), int64(crc32.ChecksumIEEE([]byte(one))))
	}
	for _, many := range []int{2, 3, 4, 5, 100, impl.MaxBytes - 1, impl.MaxBytes} {
		same(t, "longer", impl.Crc(long(many)), int64(crc32.ChecksumIEEE([]byte(long(many)))))
	}
	same(t, "one byte more than MaxBytes", impl.Crc(long(impl.MaxBytes+1)), int64(0))
}

// Promise 2: a CRC goes on from text to text.
func TestCrcGoesOn(t *testing.T) {
	text := long(300)
	for cut := range len(text) + 1 {
		same(t, "cut in two", impl.CrcMore(impl.Crc(text[:cut]), text[cut:]), impl.Crc(text))
	}
	crc := int64(0)
	for i := range len(text) {
		crc = impl.CrcMore(crc, text[i:i+1])
	}
	same(t, "byte by byte", crc, impl.Crc(text))
	most := long(impl.MaxBytes)
	same(t, "both of MaxBytes", impl.CrcMore(impl.Crc(most), most), int64(crc32.ChecksumIEEE([]byte(most+most))))
}

func TestCrcMoreLimits(t *testing.T) {
	for _, crc := range []int64{0, 1, 1 << 31, 1<<32 - 2, 1<<32 - 1} {
		same(t, "nothing behind", impl.CrcMore(crc, ""), crc)
		same(t, "one byte behind", impl.CrcMore(crc, "a"), int64(crc32.Update(uint32(crc), crc32.IEEETable, []byte("a"))))
	}
	for _, crc := range []int64{-1, -2, 1 << 32, 1<<32 + 1, math.MinInt64, math.MaxInt64} {
		same(t, "no crc", impl.CrcMore(crc, "a"), int64(0))
		same(t, "no crc, nothing behind", impl.CrcMore(crc, ""), int64(0))
	}
	same(t, "too long a text", impl.CrcMore(5, long(impl.MaxBytes+1)), int64(0))
	same(t, "neither", impl.CrcMore(-1, long(impl.MaxBytes+1)), int64(0))
}

// Promise 2: a sealed text comes back.
func TestSealedComesBack(t *testing.T) {
	for _, many := range []int{0, 1, 2, 3, 4, 5, 255, 4000, impl.MaxBytes - 5, impl.MaxBytes - 4} {
		in := long(many)
		sealed := impl.Seal(in)
		same(t, "length", len(sealed), many+4)
		same(t, "comes back", impl.Unseal(sealed), impl.TextOut{Text: in})
	}
	same(t, "bytes", impl.Seal("123456789"), "123456789\x26\x39\xf4\xcb")
	same(t, "empty", impl.Seal(""), "\x00\x00\x00\x00")
	for many := impl.MaxBytes - 3; many <= impl.MaxBytes+1; many++ {
		same(t, "too long to seal", impl.Seal(long(many)), "")
	}
}

// Promise 2: with one byte turned it is refused.
func TestTurnedIsRefused(t *testing.T) {
	refused := impl.TextOut{Code: impl.ErrSum}
	for _, in := range []string{"", "a", "who may not be heard", strings.Repeat("\x00", 9)} {
		sealed := []byte(impl.Seal(in))
		for i := range sealed {
			for turn := 1; turn < 256; turn++ {
				sealed[i] ^= byte(turn)
				same(t, "turned", impl.Unseal(string(sealed)), refused)
				sealed[i] ^= byte(turn)
			}
		}
	}
}

func TestUnsealFaults(t *testing.T) {
	short := impl.TextOut{Code: impl.ErrShort}
	for many := range 4 {
		same(t, "noughts", impl.Unseal(strings.Repeat("\x00", many)), short)
		same(t, "some bytes", impl.Unseal(long(many)), short)
	}
	sealed := impl.Seal("abcdef")
	refused := impl.TextOut{Code: impl.ErrSum}
	same(t, "a byte less", impl.Unseal(sealed[:len(sealed)-1]), refused)
	same(t, "a byte more", impl.Unseal(sealed+"\x00"), refused)
	same(t, "first byte gone", impl.Unseal(sealed[1:]), refused)
	same(t, "highest byte first", impl.Unseal("123456789\xcb\xf4\x39\x26"), refused)
	same(t, "of MaxBytes", impl.Unseal(long(impl.MaxBytes)), refused)
	same(t, "one byte more", impl.Unseal(long(impl.MaxBytes+1)), impl.TextOut{Code: impl.ErrSize})
}
