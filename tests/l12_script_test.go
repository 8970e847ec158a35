package tests

import (
	"fmt"
	"slices"
	"strings"
	"testing"

	"loop.example/g00740/impl"
)

func ref(label int64, n int64) impl.Ref {
	return impl.Ref{Label: label, N: n}
}

// sayings are calls and their texts, by hand: each word, each kind, each label.
var sayings = []struct {
	call impl.Call
	text string
}{
	{impl.Call{Word: 1, X: 1}, "- make -.0 box - 0"},
	{impl.Call{Word: 1, X: 2}, "- make -.0 seg - 0"},
	{impl.Call{Word: 1, X: 3}, "- make -.0 space - 0"},
	{impl.Call{Who: 1, Word: 1, A: ref(0, 1), X: 1, Y: 3, Z: 2}, "a make -.1 box ab 2"},
	{impl.Call{Who: 2, Word: 1, A: ref(2, 10), X: 2, Y: 6, Z: 5}, "b make b.10 seg bc 5"},
	{impl.Call{Who: 3, Word: 1, A: ref(3, 999), X: 3, Y: 15, Z: 999999}, "ab make ab.999 space abcd 999999"},
	{impl.Call{Who: 15, Word: 1, A: ref(15, 100), X: 3, Y: 1, Z: 10}, "abcd make abcd.100 space a 10"},
	{impl.Call{Word: 2}, "- drop -.0"},
	{impl.Call{Who: 4, Word: 2, A: ref(4, 9)}, "c drop c.9"},
	{impl.Call{Who: 5, Word: 2, A: ref(15, 999)}, "ac drop abcd.999"},
	{impl.Call{Word: 3}, "- info -.0"},
	{impl.Call{Who: 6, Word: 3, A: ref(2, 12)}, "bc info b.12"},
	{impl.Call{Who: 7, Word: 3, A: ref(7, 1)}, "abc info abc.1"},
	{impl.Call{Word: 4}, "- kids -.0"},
	{impl.Call{Who: 8, Word: 4, A: ref(8, 2)}, "d kids d.2"},
	{impl.Call{Who: 9, Word: 4, A: ref(1, 123)}, "ad kids a.123"},
	{impl.Call{Word: 5}, "- room -.0"},
	{impl.Call{Who: 10, Word: 5, A: ref(10, 3)}, "bd room bd.3"},
	{impl.Call{Who: 11, Word: 5, A: ref(8, 20)}, "abd room d.20"},
	{impl.Call{Word: 6}, "- peek -.0 0"},
	{impl.Call{Who: 12, Word: 6, A: ref(12, 4), X: 63}, "cd peek cd.4 63"},
	{impl.Call{Who: 12, Word: 6, A: ref(4, 4), X: 999999}, "cd peek c.4 999999"},
	{impl.Call{Word: 7}, "- poke -.0 0 0"},
	{impl.Call{Who: 13, Word: 7, A: ref(13, 5), X: 1, Y: 65535}, "acd poke acd.5 1 65535"},
	{impl.Call{Who: 13, Word: 7, A: ref(5, 5), X: 65535, Y: 1}, "acd poke ac.5 65535 1"},
	{impl.Call{Word: 8}, "- fill -.0 0"},
	{impl.Call{Who: 14, Word: 8, A: ref(14, 6), Y: 7}, "bcd fill bcd.6 7"},
	{impl.Call{Word: 9}, "- map -.0 0 -.0 0"},
	{impl.Call{Who: 3, Word: 9, A: ref(2, 1), B: ref(1, 0), X: 3, Y: 2}, "ab map b.1 3 a.0 2"},
	{impl.Call{Who: 3, Word: 9, A: ref(1, 0), B: ref(2, 1), X: 2, Y: 3}, "ab map a.0 2 b.1 3"},
	{impl.Call{Who: 11, Word: 9, A: ref(11, 999), B: ref(9, 999), X: 999999, Y: 999999}, "abd map abd.999 999999 ad.999 999999"},
	{impl.Call{Word: 10}, "- unmap -.0 0"},
	{impl.Call{Who: 1, Word: 10, A: ref(1, 8), X: 7}, "a unmap a.8 7"},
	{impl.Call{Word: 11}, "- load -.0 0 0"},
	{impl.Call{Who: 2, Word: 11, A: ref(2, 3), X: 7, Y: 1}, "b load b.3 7 1"},
	{impl.Call{Who: 2, Word: 11, A: ref(2, 3), X: 1, Y: 7}, "b load b.3 1 7"},
	{impl.Call{Word: 12}, "- store -.0 0 0 0"},
	{impl.Call{Who: 1, Word: 12, A: ref(1, 2), X: 3, Y: 1, Z: 9}, "a store a.2 3 1 9"},
	{impl.Call{Who: 15, Word: 12, A: ref(6, 70), X: 10, Y: 100, Z: 1000}, "abcd store bc.70 10 100 1000"},
}

// Promise 17, by hand.
func TestCallsAndTheirTextsByHand(t *testing.T) {
	for _, one := range sayings {
		same(t, one.text, callSaid(t, one.call), one.text)
		same(t, one.text, callHeard(t, one.text), impl.LineOut{Call: one.call})
	}
}

func TestRefTextOfEachLabel(t *testing.T) {
	for l := range int64(16) {
		for _, n := range []int64{0, 1, 9, 10, 12, 99, 100, 998, 999} {
			same(t, "a Ref", impl.RefText(ref(l, n)), labelTexts[l]+"."+fmt.Sprint(n))
		}
		for _, n := range []int64{-1, -999, 1000, 1001, 9999, 1 << 32, 1<<63 - 1, -1 << 63} {
			same(t, "no such number", impl.RefText(ref(l, n)), "")
		}
	}
	for _, l := range noLabels {
		for _, n := range []int64{-1, 0, 1, 999, 1000} {
			same(t, "no label", impl.RefText(ref(l, n)), "")
		}
	}
	same(t, "by hand", impl.RefText(ref(3, 12)), "ab.12")
	same(t, "the root's", impl.RefText(impl.Ref{}), "-.0")
}

func TestRepliesByHand(t *testing.T) {
	h := impl.Handle{By: 1, Id: 2, Gen: 3}
	for _, one := range []struct {
		word int64
		r    impl.Reply
		text string
	}{
		{impl.WdMake, impl.Reply{Handle: h}, "ab.7"},
		{impl.WdMake, impl.Reply{}, "ab.7"},
		{impl.WdMake, impl.Reply{N: 5, Handles: []impl.Handle{h}}, "ab.7"},
		{impl.WdDrop, impl.Reply{}, "ok"},
		{impl.WdInfo, impl.Reply{N: 331}, "331"},
		{impl.WdInfo, impl.Reply{N: -331}, "-331"},
		{impl.WdInfo, impl.Reply{}, "0"},
		{impl.WdKids, impl.Reply{}, "0"},
		{impl.WdKids, impl.Reply{Handles: []impl.Handle{h}}, "1"},
		{impl.WdKids, impl.Reply{N: 9, Handles: []impl.Handle{h, h}}, "2"},
		{impl.WdKids, impl.Reply{Handles: make([]impl.Handle, 12)}, "12"},
		{impl.WdRoom, impl.Reply{N: 32}, "32"},
		{impl.WdPeek, impl.Reply{N: 65535}, "65535"},
		{impl.WdPoke, impl.Reply{}, "ok"},
		{impl.WdFill, impl.Reply{N: 4}, "ok"},
		{impl.WdMap, impl.Reply{}, "ok"},
		{impl.WdUnmap, impl.Reply{}, "ok"},
		{impl.WdLoad, impl.Reply{N: 1000000}, "1000000"},
		{impl.WdLoad, impl.Reply{N: 7, Handles: []impl.Handle{h}}, "7"},
		{impl.WdStore, impl.Reply{Handle: h}, "ok"},
	} {
		c := impl.Call{Who: 3, Word: one.word}
		same(t, fmt.Sprintf("%d %+v", one.word, one.r), impl.ReplyText(c, one.r, 7), one.text)
		for _, code := range []int64{impl.ErrForm, impl.ErrNone, impl.ErrRange, impl.ErrFull, impl.ErrState, 11, 123456789} {
			r := one.r
			r.Code = code
			same(t, fmt.Sprintf("%d %+v", one.word, r), impl.ReplyText(c, r, 7), "error "+fmt.Sprint(code))
		}
	}
}

// line is a line of a script, and what is told of it.
type line struct {
	says  string
	tells string
}

// tellsByLine asks that of a script those lines are told, and of each of its beginnings those of that.
func tellsByLine(t *testing.T, seed int64, lines ...line) {
	t.Helper()
	text, told := fmt.Sprintf("kernel %d\n", seed), ""
	same(t, text, scripted(t, text), impl.ScriptOut{})
	for _, one := range lines {
		text += one.says + "\n"
		told += one.tells + "\n"
		same(t, text, scripted(t, text), impl.ScriptOut{Text: told})
	}
}

// Promise 18, by hand.
func TestAScriptOfOneLabelByHand(t *testing.T) {
	tellsByLine(t, 5,
		line{"- room -.0", "32"},
		line{"- info -.0", "51"},
		line{"- kids -.0", "0"},
		line{"- make -.0 box - 2", "-.1"},
		line{"- make -.0 seg - 1", "-.2"},
		line{"- make -.1 space - 0", "-.3"},
		line{"- room -.0", "26"},
		line{"- room -.1", "4"},
		line{"- kids -.0", "2"},
		line{"- kids -.1", "1"},
		line{"- info -.1", "21"},
		line{"- info -.2", "12"},
		line{"- info -.3", "3"},
		line{"- poke -.2 3 65535", "ok"},
		line{"- poke -.2 4 1", "error 8"},
		line{"- poke -.2 0 65536", "error 1"},
		line{"- peek -.2 3", "65535"},
		line{"- map -.3 7 -.2 1", "ok"},
		line{"- load -.3 7 1", "65535"},
		line{"- store -.3 7 0 12", "ok"},
		line{"- load -.3 8 0", "error 1"},
		line{"- load -.3 6 0", "error 6"},
		line{"- peek -.2 2", "12"},
		line{"- fill -.2 8", "ok"},
		line{"- load -.3 7 1", "8"},
		line{"- unmap -.3 7", "ok"},
		line{"- load -.3 7 1", "error 6"},
		line{"- map -.3 0 -.2 0", "ok"},
		line{"- drop -.2", "ok"},
		line{"- load -.3 0 0", "error 6"},
		line{"- peek -.2 0", "error 6"},
		line{"- make -.0 seg - 9", "error 1"},
		line{"- make -.0 seg - 5", "error 9"},
		line{"- make -.0 seg - 4", "-.4"},
		line{"- room -.0", "12"},
		line{"- drop -.0", "error 6"},
		line{"- drop -.9", "error 6"},
	)
}

func TestAScriptOfSeveralLabelsByHand(t *testing.T) {
	tellsByLine(t, 65535,
		line{"- make -.0 box ab 3", "-.1"},
		line{"- make -.0 box a 1", "-.2"},
		line{"- room -.0", "22"},
		line{"d info -.1", "331"},
		line{"ab make -.1 seg ab 1", "ab.0"},
		line{"ab make -.1 space ab 0", "ab.1"},
		line{"ab make -.1 box abc 2", "ab.2"},
		line{"abc make ab.2 seg abcd 0", "abc.0"},
		line{"ab room -.1", "2"},
		line{"ab kids -.1", "3"},
		line{"ab room ab.2", "error 6"},
		line{"abc room ab.2", "3"},
		line{"abcd info abc.0", "1502"},
		line{"abd info abc.0", "error 6"},
		line{"a make -.2 seg a 0", "a.0"},
		line{"a poke a.0 1 65535", "ok"},
		line{"ab map ab.1 7 a.0 0", "ok"},
		line{"ab load ab.1 7 1", "65535"},
		line{"ab store ab.1 7 0 4", "error 6"},
		line{"ab peek a.0 1", "65535"},
		line{"b peek a.0 1", "error 6"},
		line{"ab poke a.0 1 0", "error 6"},
		line{"abc poke abc.0 1 9", "ok"},
		line{"abc peek abc.0 1", "error 6"},
		line{"abcd peek abc.0 1", "9"},
		line{"ab map ab.1 0 ab.0 1", "ok"},
		line{"ab store ab.1 0 1 12", "ok"},
		line{"ab peek ab.0 3", "12"},
		line{"ab peek ab.0 4", "error 8"},
		line{"a drop a.0", "ok"},
		line{"ab load ab.1 7 1", "error 6"},
		line{"- drop -.1", "ok"},
		line{"ab info ab.0", "error 6"},
		line{"abcd peek abc.0 1", "error 6"},
		line{"ab make -.1 seg ab 0", "error 6"},
		line{"- make -.0 box ab 4", "-.3"},
		line{"- make -.3 seg - 0", "error 6"},
		line{"ab make -.3 seg a 0", "error 1"},
		line{"ab make -.3 box ab 4", "ab.3"},
		line{"ab make -.3 seg ab 0", "error 9"},
		line{"a make -.2 seg a 0", "a.1"},
		line{"- kids -.0", "2"},
	)
}

// What is told again and again has one number more each time, of each label by itself.
func TestNumbersOfWhatIsToldByHand(t *testing.T) {
	lines := []line{{"- make -.0 box - 3", "-.1"}, {"- make -.0 box a 3", "-.2"}, {"- make -.0 box abcd 3", "-.3"}}
	boxes := []string{"-.1", "-.2", "-.3"}
	for n := range 6 {
		for i, who := range []string{"-", "a", "abcd"} {
			name := fmt.Sprintf("%s.%d", who, []int{4, 0, 0}[i]+n)
			lines = append(lines, line{fmt.Sprintf("%s make %s seg %s 0", who, boxes[i], who), name})
			lines = append(lines, line{fmt.Sprintf("%s drop %s", who, name), "ok"})
		}
	}
	full := line{"- make -.1 seg - 0", "error 9"} // each slot was used as often as may be
	tellsByLine(t, 7, append(lines, full, line{"- kids -.1", "0"}, line{"a make -.2 seg a 0", "a.6"})...)
}

// The order in which they stand is that in which calls are done.
func TestCallsAreDoneInOrder(t *testing.T) {
	says := []string{"kernel 9", "- make -.0 seg - 0"}
	var tells []string
	for n := range 29 {
		says = append(says, fmt.Sprintf("- poke -.1 %d %d", n%2, n), fmt.Sprintf("- peek -.1 %d", n%2))
		tells = append(tells, "ok", fmt.Sprint(n))
	}
	for range 50 {
		got := impl.ScriptRun(strings.Join(says, "\n") + "\n")
		same(t, "in order", got, impl.ScriptOut{Text: "-.1\n" + strings.Join(tells, "\n") + "\n"})
	}
	slices.Reverse(says[2:])
	got := scripted(t, strings.Join(says, "\n")+"\n")
	same(t, "the other way round", strings.HasPrefix(got.Text, "-.1\n0\nok\n0\nok\n28\nok\n27\nok\n"), true)
}
