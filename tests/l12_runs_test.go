package tests

import (
	"fmt"
	"strings"
	"sync"
	"testing"

	"loop.example/g00740/impl"
)

// drawnSaying is a call that can be said.
func drawnSaying(d *dice) impl.Call {
	number := func() int64 {
		return int64(d.draw([]int{2, 10, 100, 1000, 10000, 100000, 1000000}[d.draw(7)]))
	}
	name := func() impl.Ref { return ref(int64(d.draw(16)), number()%1000) }
	c := impl.Call{Who: int64(d.draw(16)), Word: int64(1 + d.draw(12)), A: name(), B: name(), X: number(), Y: number(), Z: number()}
	if c.Word == impl.WdMake {
		c.X, c.Y = int64(1+d.draw(3)), int64(d.draw(16))
	}
	return onlyTaken(c)
}

// Promise 17, of calls drawn in great number, and of calls of which one number or two are others.
func TestDrawnCallsComeBack(t *testing.T) {
	t.Parallel()
	d := dice(32452867)
	many := map[string]int{}
	wild := append([]int64{-1, 0, 1, 3, 4, 12, 13, 15, 16, 999, 1000, 999999, 1000000}, wideNumbers...)
	for range 60000 {
		c := drawnSaying(&d)
		text := callSaid(t, c)
		same(t, fmt.Sprintf("%+v is said", c), text != "", true)
		many[fmt.Sprint(c.Word)]++
		for n := d.draw(3); n > 0; n-- {
			*fields[d.draw(len(fields))].at(&c) = wild[d.draw(len(wild))]
		}
		if d.draw(9) == 0 {
			c.Word = wild[d.draw(len(wild))]
		}
		if callSaid(t, c) != "" {
			many["said"]++
		} else {
			many["not said"]++
		}
		if t.Failed() {
			t.FailNow()
		}
	}
	cameUp(t, many, "1", "2", "3", "4", "5", "6", "7", "8", "9", "10", "11", "12", "said", "not said")
}

// No two calls are said alike.
func TestNoTwoCallsAreSaidAlike(t *testing.T) {
	said := map[string]impl.Call{}
	say := func(c impl.Call) {
		text := impl.CallText(c)
		if text == "" {
			return
		}
		if other, is := said[text]; is && other != c {
			t.Errorf("%q: both of %+v and of %+v", text, c, other)
		}
		said[text] = c
	}
	numbers := []int64{0, 1, 2, 3, 10, 11, 110}
	for word := int64(1); word <= 12; word++ {
		for _, who := range []int64{0, 1, 3} {
			for _, a := range numbers {
				for _, x := range numbers {
					for _, y := range numbers {
						for _, z := range []int64{0, 1, 10} {
							say(impl.Call{Who: who, Word: word, A: ref(who, a), X: x, Y: y, Z: z})
							say(impl.Call{Who: who, Word: word, A: ref(1, a), B: ref(who, z), X: x, Y: y})
						}
					}
				}
			}
		}
	}
	same(t, "many were said", len(said) > 3000, true)
}

// Promise 17: one sign away from the text of a call stands that of another call, or none at all.
func TestTextsNearToACall(t *testing.T) {
	t.Parallel()
	read, refused := 0, 0
	hear := func(text string) {
		if callHeard(t, text).Code == impl.OK {
			read++
		} else {
			refused++
		}
	}
	for _, one := range sayings {
		text := one.text
		for at := range len(text) + 1 {
			for b := range 256 {
				hear(text[:at] + string([]byte{byte(b)}) + text[at:])
				if at < len(text) {
					hear(text[:at] + string([]byte{byte(b)}) + text[at+1:])
				}
			}
			if at < len(text) {
				hear(text[:at] + text[at+1:])
				hear(text[:at] + text[at:at+1] + text[at:])
				hear(text[:at])
				hear(text[at:])
				hear(text[:at] + strings.ToUpper(text[at:at+1]) + text[at+1:])
			}
			for _, rune := range []string{"\xc3\xa4", "\xe2\x80\xa8", "\xd9\xa1", "\xc2\xa0", "\r\n", "00", " 0", "0 ", "99"} {
				hear(text[:at] + rune + text[at:])
			}
		}
		if t.Failed() {
			t.FailNow()
		}
	}
	same(t, "some are calls", read > 1000, true)
	same(t, "most are none", refused > 100000, true)
}

// Promise 17: with words that are put together as they come, only texts of calls are read.
func TestDrawnWordsInARow(t *testing.T) {
	t.Parallel()
	d := dice(49979687)
	parts := []string{"-", "a", "ab", "ba", "-.0", "a.0", "ab.999", "a.1000", "0", "7", "00", "07", "999999", "1000000", "box", "seg", "space", "", "kernel",
		"make", "drop", "info", "kids", "room", "peek", "poke", "fill", "map", "unmap", "load", "store"}
	many := map[string]int{}
	for range 60000 {
		c := drawnSaying(&d)
		l := strings.Split(callTextByWords(c), " ")
		for n := d.draw(4); n > 0; n-- {
			switch at := d.draw(len(l)); d.draw(6) {
			case 0:
				l = append(l, parts[d.draw(len(parts))])
			case 1:
				l = append(l[:at:at], l[min(at+1, len(l)-1):]...)
			case 2:
				other := d.draw(len(l))
				l[at], l[other] = l[other], l[at]
			default:
				l[at] = parts[d.draw(len(parts))]
			}
		}
		if callHeard(t, strings.Join(l, " ")).Code == impl.OK {
			many["read"]++
		} else {
			many["refused"]++
		}
	}
	cameUp(t, many, "read", "refused")
}

// firstMakes are calls with which a script begins, so that there is something of each kind.
func firstMakes(d *dice) []impl.Call {
	of := int64(d.draw(16))
	box, seg := ref(0, 1), ref(of, 0)
	if of == 0 {
		seg.N = 2
	}
	space := ref(of, seg.N+1)
	return []impl.Call{
		{Word: impl.WdMake, X: impl.KdBox, Y: of, Z: int64(2 + d.draw(2))},
		{Who: of, Word: impl.WdMake, A: box, X: impl.KdSeg, Y: of, Z: 1},
		{Who: of, Word: impl.WdMake, A: box, X: impl.KdSpace, Y: of},
		{Who: of, Word: impl.WdMap, A: space, B: seg, X: int64(d.draw(8)), Y: int64(d.draw(2))},
		{Who: of, Word: impl.WdPoke, A: seg, X: int64(d.draw(6)), Y: int64(d.draw(70000))},
		{Who: of, Word: impl.WdPeek, A: seg, X: int64(d.draw(6))},
	}
}

// drawnScript is a run of calls that can be said, and its text, line by line.
func drawnScript(t *testing.T, d *dice, many int) (past, []string) {
	t.Helper()
	p, m := newPast(int64(d.draw(65536)))
	lines := []string{fmt.Sprintf("kernel %d\n", p.seed)}
	first := firstMakes(d)
	if d.draw(3) == 0 {
		first = nil
	}
	for len(p.calls) < many {
		c := onlyTaken(drawnCall(d, m))
		if n := len(p.calls); n < len(first) {
			c = first[n]
		}
		if text := callTextByWords(c); text != "" {
			m = p.add(t, m, c)
			lines = append(lines, text+"\n")
		}
	}
	return p, lines
}

// Promise 18, of drawn scripts of several labels, and of all their beginnings.
func TestDrawnScriptsTellALineForEachCall(t *testing.T) {
	t.Parallel()
	d := dice(67867967)
	many := map[string]int{}
	for round := range 120 {
		p, lines := drawnScript(t, &d, []int{60, 59, 30}[round%3])
		told := scripted(t, strings.Join(lines, "")).Text
		same(t, "told", told, repliesText(p.calls, p.replies))
		said := strings.SplitAfter(told, "\n")
		same(t, "a line for each call", len(said), len(lines))
		for i, c := range p.calls {
			r := p.replies[i]
			number := int64(len(p.machines[i].Told[c.Who]))
			same(t, lines[i+1], said[i], impl.ReplyText(c, r, number)+"\n")
			if c.Word == impl.WdMake && r.Code == impl.OK {
				same(t, "by that number it is called", impl.Named(p.machines[i+1], c.Who, ref(c.Who, number)), r.Handle)
			}
			many[fmt.Sprint(c.Word, " ", r.Code)]++
		}
		for n := 0; n <= len(p.calls); n += 1 + d.draw(24) {
			out := scripted(t, strings.Join(lines[:n+1], ""))
			same(t, "the beginning of what all tell", out, impl.ScriptOut{Text: strings.Join(said[:n], "")})
		}
		if round%15 == 0 {
			same(t, "by the document", repliesText(p.calls, runByWords(p.seed, p.calls).Replies), told)
		}
	}
	want := []string{"1 1", "1 6", "1 9", "6 8", "7 8", "7 1"}
	for word := range 12 {
		want = append(want, fmt.Sprint(word+1, " ", 0))
	}
	cameUp(t, many, append(want, "2 6", "3 6", "4 6", "5 6", "11 6", "12 6")...)
}

// broken is a script with one thing or another that is wrong in it.
func broken(d *dice, lines []string) string {
	text := strings.Join(lines, "")
	at := d.draw(len(text))
	i := d.draw(len(lines))
	switch d.draw(10) {
	case 9:
		return fmt.Sprintf("kernel %d\n", d.draw(300000)) + strings.Join(lines[1:], "")
	case 0:
		return text[:at]
	case 1:
		return text[at:]
	case 2:
		return text[:at] + text[at+1:]
	case 3:
		return text[:at] + string([]byte{byte(d.draw(256))}) + text[at:]
	case 4:
		return text[:at] + string([]byte{byte(d.draw(256))}) + text[at+1:]
	case 5:
		return text[:at] + "\n" + text[at:]
	case 6:
		return strings.Join(lines[:i], "") + strings.Join(lines[i+1:], "")
	case 7:
		return strings.Join(lines[:i+1], "") + strings.Join(lines[i:], "")
	}
	return strings.Join(lines[:i], "") + strings.TrimSuffix(lines[i], "\n") + strings.Join(lines[i+1:], "")
}

func TestBrokenScripts(t *testing.T) {
	t.Parallel()
	d := dice(86028121)
	many := map[string]int{}
	for range 40 {
		_, lines := drawnScript(t, &d, 5+d.draw(56))
		for range 60 {
			got := scripted(t, broken(&d, lines))
			many[fmt.Sprint("code ", got.Code)]++
			if got.Code != impl.OK {
				same(t, "no Text is told of what is refused", got.Text, "")
			}
			many[fmt.Sprint("later ", got.Line > 0)]++
		}
	}
	cameUp(t, many, "code 0", "code 1", "code 3", "later true", "later false")
}

// Nothing is kept from one script to the next, and what others do meanwhile turns nothing.
func TestScriptsAgainAndAtOnce(t *testing.T) {
	t.Parallel()
	d := dice(104395303)
	var texts, want []string
	ask := func(text string) string {
		return fmt.Sprintf("%+v %+v %+v", impl.ScriptRun(text), impl.ScriptFault(text), impl.CallRead(text))
	}
	for i := range 8 {
		_, lines := drawnScript(t, &d, 40)
		texts = append(texts, strings.Join(lines, "")[i/6:])
		want = append(want, ask(texts[i]))
	}
	got := make([]string, 64)
	var all sync.WaitGroup
	for i := range got {
		all.Go(func() { got[i] = ask(texts[i%8]) })
	}
	all.Wait()
	for i, one := range got {
		same(t, "at once", one == want[i%8], true)
	}
}
