package tests

import (
	"fmt"
	"regexp"
	"slices"
	"strconv"
	"strings"
	"testing"

	"loop.example/g00740/impl"
)

// The calls of chapter 13, told once more by the document's words alone.

var kindTexts = []string{"", "box", "seg", "space"}

func refTextByWords(r impl.Ref) string {
	if !between(r.Label, 0, 15) || !between(r.N, 0, 999) {
		return ""
	}
	return fmt.Sprintf("%s.%d", labelTexts[r.Label], r.N)
}

// onlyTaken is a call without what its word does not take.
func onlyTaken(c impl.Call) impl.Call {
	out := impl.Call{Who: c.Who, Word: c.Word, A: c.A}
	switch c.Word {
	case 1, 12:
		out.X, out.Y, out.Z = c.X, c.Y, c.Z
	case 6, 10:
		out.X = c.X
	case 7, 11:
		out.X, out.Y = c.X, c.Y
	case 8:
		out.Y = c.Y
	case 9:
		out.X, out.B, out.Y = c.X, c.B, c.Y
	}
	return out
}

func callTextByWords(c impl.Call) string {
	if !callRightByWords(c) || c != onlyTaken(c) {
		return ""
	}
	who, a, b := labelTexts[c.Who], refTextByWords(c.A), refTextByWords(c.B)
	switch c.Word {
	case 1:
		if !between(c.X, 1, 3) || !between(c.Y, 0, 15) {
			return ""
		}
		return fmt.Sprintf("%s make %s %s %s %d", who, a, kindTexts[c.X], labelTexts[c.Y], c.Z)
	case 2:
		return fmt.Sprintf("%s drop %s", who, a)
	case 3:
		return fmt.Sprintf("%s info %s", who, a)
	case 4:
		return fmt.Sprintf("%s kids %s", who, a)
	case 5:
		return fmt.Sprintf("%s room %s", who, a)
	case 6:
		return fmt.Sprintf("%s peek %s %d", who, a, c.X)
	case 7:
		return fmt.Sprintf("%s poke %s %d %d", who, a, c.X, c.Y)
	case 8:
		return fmt.Sprintf("%s fill %s %d", who, a, c.Y)
	case 9:
		return fmt.Sprintf("%s map %s %d %s %d", who, a, c.X, b, c.Y)
	case 10:
		return fmt.Sprintf("%s unmap %s %d", who, a, c.X)
	case 11:
		return fmt.Sprintf("%s load %s %d %d", who, a, c.X, c.Y)
	}
	return fmt.Sprintf("%s store %s %d %d %d", who, a, c.X, c.Y, c.Z)
}

// callShapes are how the texts of the twelve words look, each at its word's place.
var callShapes = func() []*regexp.Regexp {
	const label, kind, number = `(-|a?b?c?d?)`, `(box|seg|space)`, `(0|[1-9][0-9]{0,5})`
	const ref = label + `\.(0|[1-9][0-9]{0,2})`
	out := []*regexp.Regexp{nil}
	for _, parts := range [][]string{
		{"make", ref, kind, label, number}, {"drop", ref}, {"info", ref}, {"kids", ref}, {"room", ref}, {"peek", ref, number},
		{"poke", ref, number, number}, {"fill", ref, number}, {"map", ref, number, ref, number}, {"unmap", ref, number},
		{"load", ref, number, number}, {"store", ref, number, number, number},
	} {
		out = append(out, regexp.MustCompile(`\A`+label+` `+strings.Join(parts, " ")+`\z`))
	}
	return out
}()

func callReadByWords(text string) impl.LineOut {
	if len(text) > 8000 {
		return impl.LineOut{Code: impl.ErrSize}
	}
	for word := int64(1); word <= 12; word++ {
		found := callShapes[word].FindStringSubmatch(text)
		if found == nil {
			continue
		}
		number := func(i int) int64 {
			if n, err := strconv.ParseInt(found[i], 10, 64); err == nil {
				return n
			}
			return int64(slices.Index(append(slices.Clone(labelTexts), kindTexts...), found[i]))
		}
		c := impl.Call{Who: number(1), Word: word, A: impl.Ref{Label: number(2), N: number(3)}}
		switch word {
		case 1:
			c.X, c.Y, c.Z = number(4)-16, number(5), number(6)
		case 6, 10:
			c.X = number(4)
		case 7, 11:
			c.X, c.Y = number(4), number(5)
		case 8:
			c.Y = number(4)
		case 9:
			c.X, c.B, c.Y = number(4), impl.Ref{Label: number(5), N: number(6)}, number(7)
		case 12:
			c.X, c.Y, c.Z = number(4), number(5), number(6)
		}
		if callTextByWords(c) == text {
			return impl.LineOut{Call: c}
		}
	}
	return impl.LineOut{Code: impl.ErrSyntax}
}

func replyTextByWords(c impl.Call, r impl.Reply, told int64) string {
	switch {
	case r.Code != 0:
		return fmt.Sprintf("error %d", r.Code)
	case c.Word == 1:
		return refTextByWords(impl.Ref{Label: c.Who, N: told})
	case c.Word == 3 || c.Word == 5 || c.Word == 6 || c.Word == 11:
		return fmt.Sprintf("%d", r.N)
	case c.Word == 4:
		return fmt.Sprintf("%d", len(r.Handles))
	}
	return "ok"
}

var seedShape = regexp.MustCompile(`\Akernel (0|[1-9][0-9]{0,8})\n\z`)

// scriptCalls are what a script asks for, or beside a code which line is wrong.
func scriptCalls(text string) (int64, []impl.Call, impl.ScriptOut) {
	if len(text) > 8000 {
		return 0, nil, impl.ScriptOut{Code: impl.ErrSize}
	}
	lines := strings.SplitAfter(text, "\n")
	found := seedShape.FindStringSubmatch(lines[0])
	if found == nil {
		return 0, nil, impl.ScriptOut{Code: impl.ErrSyntax}
	}
	seed, _ := strconv.ParseInt(found[1], 10, 64)
	if seed > 65535 {
		return 0, nil, impl.ScriptOut{Code: impl.ErrForm}
	}
	if lines[len(lines)-1] == "" {
		lines = lines[:len(lines)-1]
	}
	var calls []impl.Call
	for i := 1; i < len(lines); i++ {
		one, ends := strings.CutSuffix(lines[i], "\n")
		out := callReadByWords(one)
		if !ends || out.Code != impl.OK || len(calls) == 60 {
			return 0, nil, impl.ScriptOut{Line: int64(i), Code: impl.ErrSyntax}
		}
		calls = append(calls, out.Call)
	}
	return seed, calls, impl.ScriptOut{}
}

// repliesText is a line for each call of a run.
func repliesText(calls []impl.Call, replies []impl.Reply) string {
	var b strings.Builder
	made := map[int64]int64{0: 1} // the root's name was told to 0
	for i, c := range calls {
		told := made[c.Who]
		if c.Word == 1 && replies[i].Code == 0 {
			made[c.Who]++
		}
		b.WriteString(replyTextByWords(c, replies[i], told) + "\n")
	}
	return b.String()
}

// The calls of this layer, each held against the document's words.

func callSaid(t *testing.T, c impl.Call) string {
	t.Helper()
	what := fmt.Sprintf("%+v", c)
	got := impl.CallText(c)
	same(t, what, got, callTextByWords(c))
	if got != "" {
		same(t, what+" comes back", impl.CallRead(got), impl.LineOut{Call: c})
		same(t, what+" is right", impl.CallRight(c), true)
	}
	return got
}

func callHeard(t *testing.T, text string) impl.LineOut {
	t.Helper()
	got := impl.CallRead(text)
	if want := callReadByWords(text); got != want {
		t.Errorf("%q: got %+v, want %+v", text, got, want)
	}
	if got.Code != impl.OK {
		same(t, text+": refused, all else is zero", got, impl.LineOut{Code: got.Code})
	} else {
		same(t, text+" comes back", impl.CallText(got.Call), text)
	}
	return got
}

// scripted is a script done; RunCalls tells the replies of which the lines must be.
func scripted(t *testing.T, text string) impl.ScriptOut {
	t.Helper()
	got, fault := impl.ScriptRun(text), impl.ScriptFault(text)
	seed, calls, want := scriptCalls(text)
	if want.Code == impl.OK {
		want.Text = repliesText(calls, impl.RunCalls(seed, calls).Replies)
		same(t, "a line for each call", strings.Count(got.Text, "\n"), len(calls))
	}
	if got != want {
		t.Errorf("%q: got %+v, want %+v", text, got, want)
	}
	same(t, "the same without Text", fault, impl.ScriptOut{Line: got.Line, Code: got.Code})
	return got
}
