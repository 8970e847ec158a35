package tests

import (
	"math"
	"strings"
	"testing"

	"loop.example/g00740/impl"
)

// labelTexts are the texts of all labels, each at its label's place, written by hand.
var labelTexts = []string{"-", "a", "b", "ab", "c", "ac", "bc", "abc", "d", "ad", "bd", "abd", "cd", "acd", "bcd", "abcd"}

// noLabels are numbers that are no labels; some of them are one again in their lowest bits.
var noLabels = []int64{-1, -2, -15, -16, -255, -256, 16, 17, 31, 32, 255, 256, 257, 271, 1 << 16, 1<<32 + 3, 1<<63 - 16, math.MaxInt64, math.MinInt64, math.MinInt64 + 5}

// has asks for a letter in a label's text, so that the tests don't lean on bits as the program does.
func has(l int64, letter string) bool {
	return strings.Contains(labelTexts[l], letter)
}

func flowsByLetters(a int64, b int64) bool {
	for _, letter := range []string{"a", "b", "c", "d"} {
		if has(a, letter) && !has(b, letter) {
			return false
		}
	}
	return true
}

// byLetters is the label with the letters of which both holds, or either, as keep says.
func byLetters(a int64, b int64, keep func(bool, bool) bool) int64 {
	text := ""
	for _, letter := range []string{"a", "b", "c", "d"} {
		if keep(has(a, letter), has(b, letter)) {
			text += letter
		}
	}
	if text == "" {
		text = "-"
	}
	for l, t := range labelTexts {
		if t == text {
			return int64(l)
		}
	}
	return -1
}

func either(a bool, b bool) bool { return a || b }
func both(a bool, b bool) bool   { return a && b }

func sameLabels(t *testing.T, what string, got []int64, want []int64) {
	t.Helper()
	if len(got) == 0 && len(want) == 0 {
		return
	}
	same(t, what, got, want)
}

func TestLabelRight(t *testing.T) {
	same(t, "MaxLabel", impl.MaxLabel, 15)
	for l := int64(-300); l <= 300; l++ {
		same(t, "near 0", impl.LabelRight(l), l >= 0 && l <= 15)
	}
	for _, l := range noLabels {
		same(t, "no label", impl.LabelRight(l), false)
	}
}

// Promise 3: what flows is told by the letters alone.
func TestFlowsByLetters(t *testing.T) {
	for a := int64(0); a <= impl.MaxLabel; a++ {
		for b := int64(0); b <= impl.MaxLabel; b++ {
			what := labelTexts[a] + " and " + labelTexts[b]
			same(t, "Flows "+what, impl.Flows(a, b), flowsByLetters(a, b))
			same(t, "Join "+what, impl.Join(a, b), byLetters(a, b, either))
			same(t, "Meet "+what, impl.Meet(a, b), byLetters(a, b, both))
		}
	}
}

// Promise 3: flowing is an order, from 0 up to MaxLabel.
func TestFlowingIsAnOrder(t *testing.T) {
	for a := int64(0); a <= impl.MaxLabel; a++ {
		same(t, "to itself", impl.Flows(a, a), true)
		same(t, "from 0", impl.Flows(0, a), true)
		same(t, "to MaxLabel", impl.Flows(a, impl.MaxLabel), true)
		same(t, "to 0", impl.Flows(a, 0), a == 0)
		same(t, "from MaxLabel", impl.Flows(impl.MaxLabel, a), a == impl.MaxLabel)
		for b := int64(0); b <= impl.MaxLabel; b++ {
			if impl.Flows(a, b) && impl.Flows(b, a) && a != b {
				t.Errorf("%d and %d flow to each other", a, b)
			}
			for c := int64(0); c <= impl.MaxLabel; c++ {
				if impl.Flows(a, b) && impl.Flows(b, c) && !impl.Flows(a, c) {
					t.Errorf("%d flows to %d, and that to %d, but not the first to the last", a, b, c)
				}
			}
		}
	}
	same(t, "a to b", impl.Flows(1, 2), false)
	same(t, "b to a", impl.Flows(2, 1), false)
}

// Promise 3: what both flow to is that to which their join flows; and the same upside down for Meet.
func TestJoinAndMeetAreBounds(t *testing.T) {
	for a := int64(0); a <= impl.MaxLabel; a++ {
		for b := int64(0); b <= impl.MaxLabel; b++ {
			join, meet := impl.Join(a, b), impl.Meet(a, b)
			same(t, "Join is a label", impl.LabelRight(join), true)
			same(t, "Meet is a label", impl.LabelRight(meet), true)
			for c := int64(0); c <= impl.MaxLabel; c++ {
				same(t, "to c", impl.Flows(join, c), impl.Flows(a, c) && impl.Flows(b, c))
				same(t, "from c", impl.Flows(c, meet), impl.Flows(c, a) && impl.Flows(c, b))
			}
		}
	}
}

func TestNoLabelFlows(t *testing.T) {
	for _, no := range noLabels {
		for l := int64(0); l <= impl.MaxLabel; l++ {
			same(t, "from no label", impl.Flows(no, l), false)
			same(t, "to no label", impl.Flows(l, no), false)
			same(t, "Join, first", impl.Join(no, l), int64(-1))
			same(t, "Join, second", impl.Join(l, no), int64(-1))
			same(t, "Meet, first", impl.Meet(no, l), int64(-1))
			same(t, "Meet, second", impl.Meet(l, no), int64(-1))
		}
		same(t, "to itself", impl.Flows(no, no), false)
		same(t, "Join with itself", impl.Join(no, no), int64(-1))
		same(t, "Meet with itself", impl.Meet(no, no), int64(-1))
		same(t, "text", impl.LabelText(no), "")
		sameLabels(t, "LabelsTo", impl.LabelsTo(no), nil)
	}
}

// Promise 3: a label comes back from its text.
func TestLabelsComeBack(t *testing.T) {
	for l := int64(0); l <= impl.MaxLabel; l++ {
		same(t, "text", impl.LabelText(l), labelTexts[l])
		same(t, "back", impl.LabelRead(impl.LabelText(l)), impl.NumOut{N: l})
	}
}

// All texts of at most five bytes out of these: the sixteen are read, the rest is refused.
func TestLabelReadOfShortTexts(t *testing.T) {
	want := map[string]int64{}
	for l, text := range labelTexts {
		want[text] = int64(l)
	}
	row, read := []string{""}, 0
	for range 6 {
		var next []string
		for _, text := range row {
			l, there := want[text]
			if there {
				read++
				same(t, text, impl.LabelRead(text), impl.NumOut{N: l})
			} else {
				same(t, text, impl.LabelRead(text), impl.NumOut{Code: impl.ErrSyntax})
			}
			for _, more := range []string{"a", "b", "c", "d", "-", "e"} {
				next = append(next, text+more)
			}
		}
		row = next
	}
	same(t, "read", read, len(labelTexts))
}

func TestLabelReadByteByByte(t *testing.T) {
	for b := range 256 {
		text := string([]byte{byte(b)})
		out := impl.NumOut{Code: impl.ErrSyntax}
		for l, label := range labelTexts {
			if label == text {
				out = impl.NumOut{N: int64(l)}
			}
		}
		same(t, "one byte", impl.LabelRead(text), out)
		behind := impl.NumOut{Code: impl.ErrSyntax}
		if strings.Contains("bcd", text) {
			behind = impl.NumOut{N: 1 + out.N}
		}
		same(t, "behind a", impl.LabelRead("a"+text), behind)
	}
}

func TestLabelReadFaults(t *testing.T) {
	for _, text := range []string{"", "ba", "ca", "dcba", "acb", "abdc", "aa", "abb", "abcdd", "abcda", "--", "-a", "a-", "A", "AB", "e", "abe", "h", "i", "q", "`", "0", "5", " ", " a", "a ", "a,b", "a\n", "\x00", "a\x00", "\xe1", "ä", strings.Repeat("a", impl.MaxBytes), long(impl.MaxBytes)} {
		same(t, text, impl.LabelRead(text), impl.NumOut{Code: impl.ErrSyntax})
	}
	for _, text := range []string{strings.Repeat("a", impl.MaxBytes+1), strings.Repeat("-", impl.MaxBytes+1), long(3 * impl.MaxBytes)} {
		same(t, "too long", impl.LabelRead(text), impl.NumOut{Code: impl.ErrSize})
	}
}

func TestLabelsTo(t *testing.T) {
	for l := int64(0); l <= impl.MaxLabel; l++ {
		var want []int64
		for a := int64(0); a <= impl.MaxLabel; a++ {
			if flowsByLetters(a, l) {
				want = append(want, a)
			}
		}
		sameLabels(t, labelTexts[l], impl.LabelsTo(l), want)
	}
	same(t, "of 0", impl.LabelsTo(0), []int64{0})
	same(t, "of bd", impl.LabelsTo(10), []int64{0, 2, 8, 10})
}

func TestLabelsToAreNewEachTime(t *testing.T) {
	first := impl.LabelsTo(7)
	for i := range first {
		first[i] = -1
	}
	same(t, "again", impl.LabelsTo(7), []int64{0, 1, 2, 3, 4, 5, 6, 7})
}
