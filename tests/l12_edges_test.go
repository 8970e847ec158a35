package tests

import (
	"fmt"
	"math"
	"runtime"
	"strings"
	"testing"
	"time"

	"loop.example/g00740/impl"
)

// fields are the numbers of a call, by their names.
var fields = []struct {
	name string
	at   func(c *impl.Call) *int64
	max  int64
}{
	{"Who", func(c *impl.Call) *int64 { return &c.Who }, 15},
	{"A's Label", func(c *impl.Call) *int64 { return &c.A.Label }, 15},
	{"A's N", func(c *impl.Call) *int64 { return &c.A.N }, 999},
	{"B's Label", func(c *impl.Call) *int64 { return &c.B.Label }, 15},
	{"B's N", func(c *impl.Call) *int64 { return &c.B.N }, 999},
	{"X", func(c *impl.Call) *int64 { return &c.X }, 999999},
	{"Y", func(c *impl.Call) *int64 { return &c.Y }, 999999},
	{"Z", func(c *impl.Call) *int64 { return &c.Z }, 999999},
}

// taken are the fields that each word takes, by hand.
var taken = []string{
	impl.WdMake: "A X Y Z", impl.WdDrop: "A", impl.WdInfo: "A", impl.WdKids: "A", impl.WdRoom: "A", impl.WdPeek: "A X", impl.WdPoke: "A X Y",
	impl.WdFill: "A Y", impl.WdMap: "A X B Y", impl.WdUnmap: "A X", impl.WdLoad: "A X Y", impl.WdStore: "A X Y Z",
}

func TestWhatACallTakesIsSaid(t *testing.T) {
	for word := int64(impl.WdMake); word <= impl.WdStore; word++ {
		for _, f := range fields {
			takes := f.name == "Who" || strings.Contains(taken[word], f.name[:1])
			for _, n := range []int64{1, 2, 3, 9, 10, 15, 16, 17, 99, 100, 999, 1000, 65535, 65536, 999999, 1000000, -1, math.MaxInt64, math.MinInt64} {
				c := impl.Call{Word: word}
				if word == impl.WdMake {
					c.X = impl.KdSeg
				}
				*f.at(&c) = n
				max := f.max
				if word == impl.WdMake && f.name == "X" {
					max = 3
				}
				if word == impl.WdMake && f.name == "Y" {
					max = 15
				}
				text := callSaid(t, c)
				same(t, fmt.Sprintf("%+v is said", c), text != "", takes && between(n, 0, max))
			}
		}
	}
}

func TestCallsThatCannotBeSaid(t *testing.T) {
	for _, one := range sayings {
		for _, f := range fields {
			for _, n := range append([]int64{-1, f.max + 1}, wideNumbers...) {
				if c := one.call; !between(n, 0, f.max) {
					*f.at(&c) = n
					same(t, fmt.Sprintf("%+v", c), callSaid(t, c), "")
				}
			}
		}
		for _, word := range append([]int64{-1, 0, 13, 14, 255, 257, 268}, wideNumbers...) {
			if c := one.call; !between(word, 1, 12) {
				c.Word = word
				same(t, fmt.Sprintf("%+v", c), callSaid(t, c), "")
			}
		}
	}
	for _, kind := range []int64{0, 4, 5, 255, 999999} {
		same(t, "no kind", callSaid(t, impl.Call{Word: impl.WdMake, X: kind}), "")
	}
	for _, of := range []int64{16, 17, 255, 256, 999999} {
		same(t, "no label", callSaid(t, impl.Call{Word: impl.WdMake, X: impl.KdBox, Y: of}), "")
	}
}

func TestTextsOfNoCall(t *testing.T) {
	for _, text := range []string{
		"", " ", "  ", "-", "- ", "- make", "- drop", "- drop ", "drop -.0", " drop -.0", "- -.0", "a.0", "kernel 5", "ok", "error 6",
		"- Drop -.0", "- DROP -.0", "A drop a.0", "a drop A.0", "- dro -.0", "- drops -.0", "- drop  -.0", "-  drop -.0", " - drop -.0", "- drop -.0 ",
		"- drop -.0\n", "\n- drop -.0", "- drop\n-.0", "- drop\t-.0", "- drop -.0\r", "- drop -.0\x00", "\x00- drop -.0", "- drop -.\x00", "- drop -.0\xff",
		"- drop -.", "- drop .0", "- drop .", "- drop -0", "- drop 0", "- drop -", "- drop -..0", "- drop -.0.", "- drop -.0.0", "- drop -,0",
		"- drop -.00", "- drop -.01", "- drop -.000", "- drop -.1000", "- drop -.9999", "- drop -.0999", "- drop -.-1", "- drop -.+1", "- drop -.1e2",
		"- drop -.0x1", "- drop -. 1", "- drop ba.1", "- drop aa.1", "- drop e.1", "- drop -a.1", "- drop a-.1", "ba drop -.0", "aa drop -.0", "e drop -.0",
		"-- drop -.0", "-a drop -.0", "0 drop -.0", "5 drop -.0", "- 2 -.0", "- drop 0.0", "- drop -.0 -.0", "- drop -.0 0", "- info", "- info 0", "- info -.0 0",
		"- kids -.0 0", "- room -.0 0", "- room -.0 -.0", "- peek -.0", "- peek -.0 -.0", "- peek -.0 0 0", "- peek -.0 00", "- peek -.0 01", "- peek -.0 -1",
		"- peek -.0 +1", "- peek -.0 1000000", "- peek -.0 0999999", "- peek -.0 999999999", "- peek -.0 9999999999", "- peek -.0 99999999999999999999999",
		"- peek -.0 18446744073709551617", "- peek -.0 9223372036854775808", "- peek -.0 4294967297", "- peek -.0 1.0", "- peek -.0 1_0", "- peek -.0 a",
		"- peek -.0 \xd9\xa1", "- peek -.0 \xef\xbc\x91", "\xc3\xa4 drop -.0", "- dr\xc3\xb6p -.0", "- drop\xc2\xa0-.0", "- poke -.0 0", "- poke -.0 0 0 0",
		"- fill -.0", "- fill -.0 0 0", "- fill 0 -.0", "- map -.0 0 -.0", "- map -.0 -.0 0", "- map -.0 0 0 -.0", "- map -.0 -.0 0 0", "- map -.0 0 -.0 0 0",
		"- map -.0 0 -.1000 0", "- map -.0 0 -.00 0", "- unmap -.0", "- unmap -.0 0 0", "- un map -.0 0", "- load -.0 0", "- load -.0 0 0 0", "- store -.0 0 0",
		"- store -.0 0 0 0 0", "- store -.0 0 0 00", "- make -.0 box -", "- make -.0 box - 0 0", "- make -.0 - box 0", "- make box -.0 - 0", "- make -.0 1 - 0",
		"- make -.0 Box - 0", "- make -.0 boxes - 0", "- make -.0 bo - 0", "- make -.0 segment - 0", "- make -.0  - 0", "- make -.0 box  0", "- make -.0 box 0 0",
		"- make -.0 box ba 0", "- make -.0 box e 0", "- make -.0 box -.0 0", "- make -.0 box - 00", "- make -.0 box - 1000000", "- make -.0 box - -", "- make  box - 0",
		"- make -.0 box - 0 ", "make make make make make make", "-  -.0", "-  ", "-   ", " make -.0 box - 0", "- make -.0 space seg 0", "- make -.0 seg - -1",
	} {
		same(t, text, callHeard(t, text), impl.LineOut{Code: impl.ErrSyntax})
		if got := scripted(t, "kernel 5\n- room -.0\n"+text+"\n"); !strings.Contains(text, "\n") {
			same(t, text+" in a script", got, impl.ScriptOut{Line: 2, Code: impl.ErrSyntax})
		}
	}
}

func TestTextsOfCallsThatAreLong(t *testing.T) {
	same(t, "of 0 bytes", impl.CallRead(""), impl.LineOut{Code: impl.ErrSyntax})
	for _, full := range []string{long(impl.MaxBytes), strings.Repeat(" ", impl.MaxBytes), strings.Repeat("-", impl.MaxBytes), strings.Repeat("9", impl.MaxBytes),
		"- peek -.0 " + strings.Repeat("0", impl.MaxBytes-11), "- room -.0" + strings.Repeat(" ", impl.MaxBytes-10), "- room -.0" + strings.Repeat("\x00", impl.MaxBytes-10)} {
		same(t, "as long", len(full), impl.MaxBytes)
		same(t, "as long as may be", impl.CallRead(full), impl.LineOut{Code: impl.ErrSyntax})
		same(t, "one byte more", impl.CallRead(full+"0"), impl.LineOut{Code: impl.ErrSize})
		same(t, "and that ahead", impl.CallRead(" "+full), impl.LineOut{Code: impl.ErrSize})
		same(t, "many more", impl.CallRead(full+full), impl.LineOut{Code: impl.ErrSize})
	}
}

func TestTheNumberToldBesideAMake(t *testing.T) {
	for who := range int64(16) {
		c := impl.Call{Who: who, Word: impl.WdMake}
		for _, told := range []int64{0, 1, 17, 399, 400, 998, 999} {
			same(t, "a name", impl.ReplyText(c, impl.Reply{}, told), labelTexts[who]+"."+fmt.Sprint(told))
		}
		for _, told := range []int64{-1, 1000, 1001, math.MaxInt64, math.MinInt64} {
			same(t, "no name", impl.ReplyText(c, impl.Reply{}, told), "")
			same(t, "a code", impl.ReplyText(c, impl.Reply{Code: impl.ErrFull}, told), "error 9")
		}
	}
	for _, who := range noLabels {
		same(t, "no label", impl.ReplyText(impl.Call{Who: who, Word: impl.WdMake}, impl.Reply{}, 0), "")
		same(t, "no label, a code", impl.ReplyText(impl.Call{Who: who, Word: impl.WdMake}, impl.Reply{Code: 1}, 0), "error 1")
		same(t, "another word", impl.ReplyText(impl.Call{Who: who, Word: impl.WdRoom}, impl.Reply{N: 3}, -1), "3")
	}
	for word := int64(impl.WdDrop); word <= impl.WdStore; word++ {
		for _, told := range []int64{-1, 0, 5, 999, 1000} {
			c, r := impl.Call{Word: word}, impl.Reply{N: 7, Handles: make([]impl.Handle, 3)}
			same(t, "told beside another word", impl.ReplyText(c, r, told), replyTextByWords(c, r, 0))
		}
	}
}

func TestRepliesAtTheirEdges(t *testing.T) {
	numbers := append([]int64{0, 1, -1, 9, 10, -10, 999999999, 1000000000, -999999999, -1000000000, math.MaxInt64, math.MinInt64}, wideNumbers...)
	words := append([]int64{-1, 0, 13, 14, 255, 257, 268}, wideNumbers...)
	for word := int64(1); word <= 12; word++ {
		words = append(words, word)
	}
	lists := [][]impl.Handle{nil, {}, {{}}, make([]impl.Handle, 400), make([]impl.Handle, 401), make([]impl.Handle, 1234)}
	for _, word := range words {
		for i, n := range numbers {
			for _, code := range numbers {
				c, r := impl.Call{Word: word, X: n, A: ref(n, n)}, impl.Reply{Code: code, N: n, Handles: lists[i%len(lists)]}
				same(t, fmt.Sprintf("%d %d %d", word, n, code), impl.ReplyText(c, r, 5), replyTextByWords(c, r, 5))
			}
		}
	}
	least := impl.Reply{N: math.MinInt64}
	same(t, "the least", impl.ReplyText(impl.Call{Word: impl.WdRoom}, least, 0), "-9223372036854775808")
	same(t, "a code below 0", impl.ReplyText(impl.Call{Word: impl.WdRoom}, impl.Reply{Code: -12}, 0), "error -12")
	same(t, "no word", impl.ReplyText(impl.Call{Word: 13}, impl.Reply{N: 5}, 0), "ok")
	same(t, "no word", impl.ReplyText(impl.Call{}, impl.Reply{N: 5}, 0), "ok")
	same(t, "no word, a code", impl.ReplyText(impl.Call{Word: 13}, impl.Reply{Code: 5}, 0), "error 5")
}

func TestFirstLinesOfScripts(t *testing.T) {
	for _, fine := range []string{"0", "1", "9", "10", "4711", "65535"} {
		same(t, fine, scripted(t, "kernel "+fine+"\n"), impl.ScriptOut{})
		same(t, fine, scripted(t, "kernel "+fine+"\n- info -.0\n"), impl.ScriptOut{Text: "51\n"})
	}
	for _, great := range []string{"65536", "65537", "99999", "131072", "131071", "999999", "1000000", "999999999"} {
		for _, behind := range []string{"\n", "\n- info -.0\n", "\nno call\n", "\n- info -.0", "\n\n"} {
			same(t, great, scripted(t, "kernel "+great+behind), impl.ScriptOut{Code: impl.ErrForm})
		}
	}
	wrong := []string{"", "\n", " ", "kernel", "kernel ", " 5", "5", "kernel5", "kernel  5", " kernel 5", "kernel 5 ", "kernel\t5", "Kernel 5", "KERNEL 5", "kerne 5",
		"kernels 5", "kernel 5 5", "kernel -5", "kernel +5", "kernel -0", "kernel 05", "kernel 00", "kernel 000000005", "kernel 1000000000", "kernel 0000000005",
		"kernel 9999999999", "kernel 4294967296", "kernel 18446744073709551616", "kernel 99999999999999999999999999", "kernel 5.0", "kernel 0x5", "kernel 5e1", "kernel five",
		"kernel 5\r", "kernel 5\x00", "\x00kernel 5", "kernel \x005", "kernel 5\xff", "\xef\xbb\xbfkernel 5", "kernel\xc2\xa05", "kernel \xd9\xa5", "- info -.0", "kernel -", "kernel a"}
	for _, one := range wrong {
		for _, behind := range []string{"\n", "\n- info -.0\n", "\nno call\n", "\n- info -.0", "\n\n", ""} {
			same(t, one, scripted(t, one+behind), impl.ScriptOut{Code: impl.ErrSyntax})
		}
	}
	for _, seed := range []string{"0", "5", "65535", "65536", "999999999"} {
		same(t, "no line feed "+seed, scripted(t, "kernel "+seed), impl.ScriptOut{Code: impl.ErrSyntax})
	}
}

func TestLineFeedsOfScripts(t *testing.T) {
	syntax := func(line int64) impl.ScriptOut { return impl.ScriptOut{Line: line, Code: impl.ErrSyntax} }
	same(t, "the first line alone", scripted(t, "kernel 5\n"), impl.ScriptOut{})
	same(t, "one call", scripted(t, "kernel 5\n- room -.0\n"), impl.ScriptOut{Text: "32\n"})
	same(t, "no line feed at the end", scripted(t, "kernel 5\n- room -.0"), syntax(1))
	same(t, "none behind the second", scripted(t, "kernel 5\n- room -.0\n- room -.0"), syntax(2))
	same(t, "two in a row at the end", scripted(t, "kernel 5\n- room -.0\n\n"), syntax(2))
	same(t, "two in a row", scripted(t, "kernel 5\n- room -.0\n\n- room -.0\n"), syntax(2))
	same(t, "two behind the first line", scripted(t, "kernel 5\n\n- room -.0\n"), syntax(1))
	same(t, "the first line, and one more", scripted(t, "kernel 5\n\n"), syntax(1))
	same(t, "one ahead", scripted(t, "\nkernel 5\n- room -.0\n"), syntax(0))
	same(t, "one alone", scripted(t, "\n"), syntax(0))
	same(t, "a carriage return", scripted(t, "kernel 5\n- room -.0\r\n"), syntax(1))
	same(t, "a part of one", scripted(t, "kernel 5\n- room -.0\n-"), syntax(2))
	same(t, "the first line twice", scripted(t, "kernel 5\nkernel 5\n"), syntax(1))
	same(t, "two calls in a line", scripted(t, "kernel 5\n- room -.0 - room -.0\n"), syntax(1))
	same(t, "by another sign", scripted(t, "kernel 5\n- room -.0\x0b- room -.0\n"), syntax(1))
	same(t, "by another rune", scripted(t, "kernel 5\n- room -.0\xe2\x80\xa8- room -.0\n"), syntax(1))
	same(t, "half a rune ahead of one", scripted(t, "kernel 5\n- room -.0\n\xe2\x80\n- room -.0\n"), syntax(2))
	same(t, "a byte above 127 ahead of one", scripted(t, "kernel 5\n- room -.0\xff\nno\n"), syntax(1))
}

func TestAsManyCallsAsMayBe(t *testing.T) {
	lines := func(many int) string { return "kernel 5\n" + strings.Repeat("- room -.0\n", many) }
	for _, many := range []int{0, 1, 59, 60} {
		same(t, fmt.Sprint(many), scripted(t, lines(many)), impl.ScriptOut{Text: strings.Repeat("32\n", many)})
	}
	tooMany := impl.ScriptOut{Line: 61, Code: impl.ErrSyntax}
	for _, many := range []int{61, 62, 100, 300} {
		same(t, fmt.Sprint(many), scripted(t, lines(many)), tooMany)
	}
	for _, last := range []string{"- room -.0\n", "- room -.0", "no call\n", "no call", "\n", "- room -.0\nno call\n", "\n\n\n", "- room -.0\n- room -.0"} {
		same(t, "one too many: "+last, scripted(t, lines(60)+last), tooMany)
	}
	for _, at := range []int{1, 2, 30, 58, 59, 60, 61, 62} {
		for _, many := range []int{61, 62, 70} {
			l := strings.Split(strings.TrimSuffix(lines(many), "\n"), "\n")
			l[min(at, many)] = "no call"
			want := impl.ScriptOut{Line: int64(min(at, 61)), Code: impl.ErrSyntax}
			same(t, "a wrong one, and too many", scripted(t, strings.Join(l, "\n")+"\n"), want)
		}
	}
	whole := lines(60)
	same(t, "the last one is cut", scripted(t, whole[:len(whole)-1]), impl.ScriptOut{Line: 60, Code: impl.ErrSyntax})
}

func TestWhichLineIsWrong(t *testing.T) {
	for many := 1; many <= 60; many += 7 {
		for at := 1; at <= many; at++ {
			l := strings.Split("kernel 5"+strings.Repeat("\n- room -.0", many), "\n")
			l[at] = "- room -.1000"
			want := impl.ScriptOut{Line: int64(at), Code: impl.ErrSyntax}
			same(t, "a wrong line", scripted(t, strings.Join(l, "\n")+"\n"), want)
			l[many] = ""
			same(t, "and a later one", scripted(t, strings.Join(l, "\n")+"\n"), want)
			l[0] = "kernel 65536"
			same(t, "and the seed", scripted(t, strings.Join(l, "\n")+"\n"), impl.ScriptOut{Code: impl.ErrForm})
			l[0] = "kernel 6553 6"
			same(t, "and the first line", scripted(t, strings.Join(l, "\n")+"\n"), impl.ScriptOut{Code: impl.ErrSyntax})
		}
	}
}

func TestScriptsThatAreLong(t *testing.T) {
	same(t, "of 0 bytes", scripted(t, ""), impl.ScriptOut{Code: impl.ErrSyntax})
	fill := func(text string, with string) string {
		return (text + strings.Repeat(with, impl.MaxBytes))[:impl.MaxBytes]
	}
	for _, one := range []struct {
		text string
		want impl.ScriptOut
	}{
		{fill("", "\n"), impl.ScriptOut{Code: impl.ErrSyntax}},
		{fill("", "kernel 5"), impl.ScriptOut{Code: impl.ErrSyntax}},
		{fill("kernel 5\n", "\n"), impl.ScriptOut{Line: 1, Code: impl.ErrSyntax}},
		{fill("kernel 5\n", " "), impl.ScriptOut{Line: 1, Code: impl.ErrSyntax}},
		{fill("kernel 65536\n", " "), impl.ScriptOut{Code: impl.ErrForm}},
		{fill("kernel 5\n", "- room -.0\n"), impl.ScriptOut{Line: 61, Code: impl.ErrSyntax}},
		{fill("kernel 5\n- room -.0\n", "0"), impl.ScriptOut{Line: 2, Code: impl.ErrSyntax}},
		{fill("kernel ", "0"), impl.ScriptOut{Code: impl.ErrSyntax}},
		{long(impl.MaxBytes), impl.ScriptOut{Code: impl.ErrSyntax}},
	} {
		same(t, "as long as may be", scripted(t, one.text), one.want)
		for _, more := range []string{one.text + "\n", "k" + one.text, one.text + one.text} {
			same(t, "too long", scripted(t, more), impl.ScriptOut{Code: impl.ErrSize})
		}
	}
	longest := "abcd make abcd.999 space abcd 999999\n"
	same(t, "the longest calls", scripted(t, "kernel 65535\n"+strings.Repeat(longest, 60)), impl.ScriptOut{Text: strings.Repeat("error 1\n", 60)})
}

// Nothing is left running behind a script, nor behind one that is refused.
func TestNothingIsLeftRunning(t *testing.T) {
	text := "kernel 5\n" + strings.Repeat("- make -.0 seg - 0\n- drop -.1\n", 30)
	before := runtime.NumGoroutine()
	for range 200 {
		impl.ScriptRun(text)
		impl.ScriptRun("kernel 5\n")
		impl.ScriptRun(text + "- room -.0\n")
		impl.ScriptFault(text)
	}
	for range 100 {
		if runtime.NumGoroutine() <= before {
			return
		}
		time.Sleep(10 * time.Millisecond)
	}
	t.Errorf("%d goroutines, and %d before", runtime.NumGoroutine(), before)
}
