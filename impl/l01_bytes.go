package impl

import (
	"errors"
	"strconv"
)

// Constants, see chapter 1.
const (
	OK        = 0
	ErrForm   = 1
	ErrSize   = 2
	ErrSyntax = 3
	ErrShort  = 4
	ErrSum    = 5
	ErrNone   = 6
	ErrThere  = 7
	ErrRange  = 8
	ErrFull   = 9
	ErrState  = 10
	MaxBytes  = 8000
	MaxList   = 400
	MaxTime   = 1000000
)

const (
	numBytes     = 10                 // seven bits a byte: nine bytes hold 63 of the 64 bits
	lastShift    = 7 * (numBytes - 1) // so the tenth byte has but one bit left to tell
	maxNameBytes = 20
	sumBytes     = 4
	maxCrc       = 1<<32 - 1
	crcPoly      = 0xEDB88320
)

// NumOut is a thing of chapter 2.
type NumOut struct {
	N    int64
	At   int64
	Code int64
}

// TextOut is a thing of chapter 2.
type TextOut struct {
	Text string
	At   int64
	Code int64
}

// byteFault is why nothing can be read at a place; the face hands on its code.
type byteFault struct {
	code int64
}

func (f byteFault) Error() string {
	return "nothing to read here: code " + strconv.FormatInt(f.code, 10)
}

func codeOf(err error) int64 {
	var fault byteFault
	if errors.As(err, &fault) {
		return fault.code
	}
	return OK
}

// PutNum: see chapter 2.
func PutNum(n int64) string {
	// The sign goes into the lowest bit, so that small numbers of either sign stay short.
	u := uint64(n)<<1 ^ uint64(n>>63)
	var out [numBytes]byte
	many := 0
	for u >= 128 {
		out[many] = byte(u&127) | 128
		u >>= 7
		many++
	}
	out[many] = byte(u)
	return string(out[:many+1])
}

// GetNum: see chapter 2.
func GetNum(text string, at int64) NumOut {
	n, next, err := readNum(text, at)
	return NumOut{N: n, At: next, Code: codeOf(err)}
}

// PutText: see chapter 2.
func PutText(t string) string {
	if len(t) > MaxBytes {
		return ""
	}
	return joined(PutNum(int64(len(t))), t)
}

// GetText: see chapter 2.
func GetText(text string, at int64) TextOut {
	t, next, err := readText(text, at)
	return TextOut{Text: t, At: next, Code: codeOf(err)}
}

// NameRight: see chapter 2.
func NameRight(t string) bool {
	if len(t) < 1 || len(t) > maxNameBytes || !isLetter(t[0]) {
		return false
	}
	for i := 1; i < len(t); i++ {
		if !isLetter(t[i]) && !isDigit(t[i]) && t[i] != '_' {
			return false
		}
	}
	return true
}

// Crc: see chapter 2.
func Crc(text string) int64 {
	return CrcMore(0, text) // 0 is the CRC of the empty text
}

// CrcMore: see chapter 2.
func CrcMore(crc int64, text string) int64 {
	if len(text) > MaxBytes || crc < 0 || crc > maxCrc {
		return 0
	}
	register := ^uint32(crc) // a CRC is the register turned: turned back, it goes on where it stood
	for i := 0; i < len(text); i++ {
		register = crcByte(register, text[i])
	}
	return int64(^register)
}

// Seal: see chapter 2.
func Seal(text string) string {
	if len(text) > MaxBytes-sumBytes {
		return ""
	}
	return joined(text, sumOf(text))
}

// Unseal: see chapter 2.
func Unseal(text string) TextOut {
	if len(text) > MaxBytes {
		return TextOut{Code: ErrSize}
	}
	if len(text) < sumBytes {
		return TextOut{Code: ErrShort}
	}
	inner := text[:len(text)-sumBytes]
	if Seal(inner) != text {
		return TextOut{Code: ErrSum}
	}
	return TextOut{Text: fresh(inner)}
}

func readNum(text string, at int64) (int64, int64, error) {
	if len(text) > MaxBytes {
		return 0, 0, byteFault{ErrSize}
	}
	if at < 0 {
		return 0, 0, byteFault{ErrForm}
	}
	u, next, err := readBits(text, at)
	return int64(u>>1) ^ -int64(u&1), next, err
}

// readBits goes from state to state: more while bytes follow, then last or wrong.
func readBits(text string, at int64) (uint64, int64, error) {
	var u uint64
	var shift uint
	var b byte
	fault := byteFault{ErrSyntax}
more:
	if at >= int64(len(text)) {
		fault.code = ErrShort
		goto wrong
	}
	b = text[at]
	at++
	if shift == lastShift && b > 1 {
		goto wrong
	}
	u |= uint64(b&127) << shift
	if b < 128 {
		goto last
	}
	shift += 7
	goto more
last:
	if b == 0 && shift > 0 { // a last byte without a bit was not needed
		goto wrong
	}
	return u, at, nil
wrong:
	return 0, 0, fault
}

func readText(text string, at int64) (string, int64, error) {
	size, from, err := readNum(text, at)
	if err != nil {
		return "", 0, err
	}
	if size < 0 || size > MaxBytes {
		return "", 0, byteFault{ErrSyntax}
	}
	end := from + size
	if end > int64(len(text)) {
		return "", 0, byteFault{ErrShort}
	}
	return fresh(text[from:end]), end, nil
}

// joined copies both, so that the answer shares no memory with either.
func joined(first string, second string) string {
	out := make([]byte, len(first)+len(second))
	many := copy(out, first)
	copy(out[many:], second)
	return string(out)
}

// fresh copies a piece of an argument, as an answer is new memory.
func fresh(piece string) string {
	return joined(piece, "")
}

func isLetter(b byte) bool {
	return b >= 'a' && b <= 'z'
}

func isDigit(b byte) bool {
	return b >= '0' && b <= '9'
}

func crcByte(register uint32, b byte) uint32 {
	register ^= uint32(b) // all eight bits at once: each one reaches the lowest place in its turn
	for range 8 {
		low := register & 1
		register >>= 1
		if low == 1 {
			register ^= crcPoly
		}
	}
	return register
}

func sumOf(text string) string {
	crc := Crc(text)
	var out [sumBytes]byte
	for i := range out {
		out[i] = byte(crc >> (8 * i))
	}
	return string(out[:])
}
