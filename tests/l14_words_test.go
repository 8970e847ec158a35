package tests

import (
	"fmt"
	"slices"
	"testing"

	"loop.example/g00740/impl"
)

// The calls of chapter 15, told once more by the document's words alone.

func letterRightByWords(one impl.Letter, to int64) bool {
	return between(one.From, 0, 15) && flowsByLetters(one.From, to) && between(one.N, 0, 65535)
}

func postRightByWords(p impl.Post) bool {
	if len(p.Boxes) != 16 || len(p.Lost) != 16 {
		return false
	}
	for to, box := range p.Boxes {
		wrong := func(one impl.Letter) bool { return !letterRightByWords(one, int64(to)) }
		if len(box) > 5 || slices.ContainsFunc(box, wrong) || !between(p.Lost[to], 0, 999999) {
			return false
		}
	}
	return true
}

func postSendByWords(p impl.Post, from int64, to int64, n int64) impl.PostOut {
	if !postRightByWords(p) || !between(from, 0, 15) || !between(to, 0, 15) || !between(n, 0, 65535) {
		return impl.PostOut{Code: impl.ErrForm}
	}
	if !flowsByLetters(from, to) {
		return impl.PostOut{Code: impl.ErrNone}
	}
	next := copyPost(p)
	if len(next.Boxes[to]) < 5 {
		next.Boxes[to] = append(next.Boxes[to], impl.Letter{From: from, N: n})
	} else if next.Lost[to] < 999999 {
		next.Lost[to]++
	}
	return impl.PostOut{Post: next}
}

func postTakeByWords(p impl.Post, who int64) impl.PostOut {
	if !postRightByWords(p) || !between(who, 0, 15) {
		return impl.PostOut{Code: impl.ErrForm}
	}
	if len(p.Boxes[who]) == 0 {
		return impl.PostOut{Code: impl.ErrNone}
	}
	next := copyPost(p)
	next.Boxes[who] = slices.Delete(next.Boxes[who], 0, 1)
	return impl.PostOut{Post: next, Letter: p.Boxes[who][0]}
}

func postCountByWords(p impl.Post, who int64) impl.PostOut {
	if !postRightByWords(p) || !between(who, 0, 15) {
		return impl.PostOut{Code: impl.ErrForm}
	}
	return impl.PostOut{Post: copyPost(p), N: int64(len(p.Boxes[who])) + 10*p.Lost[who]}
}

func postSeenByWords(p impl.Post, label int64) []int64 {
	if !postRightByWords(p) || !between(label, 0, 15) {
		return nil
	}
	var out []int64
	for one := range int64(16) {
		if !flowsByLetters(one, label) {
			continue
		}
		out = append(out, p.Lost[one], int64(len(p.Boxes[one])))
		for _, l := range p.Boxes[one] {
			out = append(out, l.From, l.N)
		}
	}
	return out
}

func copyPost(p impl.Post) impl.Post {
	out := impl.Post{Lost: slices.Clone(p.Lost)}
	for _, box := range p.Boxes {
		out.Boxes = append(out.Boxes, slices.Clone(box))
	}
	return out
}

// emptyPost is one without anything, made by hand.
func emptyPost() impl.Post {
	return impl.Post{Boxes: make([][]impl.Letter, 16), Lost: make([]int64, 16)}
}

// lettersUpTo are so many letters of one label, each of another N.
func lettersUpTo(many int, from int64) []impl.Letter {
	var out []impl.Letter
	for i := range many {
		out = append(out, impl.Letter{From: from, N: int64(100 + i)})
	}
	return out
}

// The calls of this layer, each held against the document's words.

func heldPost(t *testing.T, what string, p impl.Post, call func() impl.PostOut, want impl.PostOut) impl.PostOut {
	t.Helper()
	before := copyPost(p)
	got := call()
	alike(t, what, got, want)
	same(t, what+": handed in, not changed", equal(p, before), true)
	same(t, what+": new memory", newMemory(got, p), true)
	if got.Code == impl.OK {
		same(t, what+": right behind it", impl.PostRight(got.Post), true)
	} else {
		alike(t, what+": refused, all else is zero", got, impl.PostOut{Code: got.Code})
	}
	return got
}

func sentLetter(t *testing.T, p impl.Post, from int64, to int64, n int64) impl.PostOut {
	t.Helper()
	call := func() impl.PostOut { return impl.PostSend(p, from, to, n) }
	got := heldPost(t, fmt.Sprintf("%+v: send %d from %d to %d", p, n, from, to), p, call, postSendByWords(p, from, to, n))
	same(t, "no letter is told to who sends", got.Letter, impl.Letter{})
	same(t, "no number is told to who sends", got.N, int64(0))
	return got
}

func tookLetter(t *testing.T, p impl.Post, who int64) impl.PostOut {
	t.Helper()
	call := func() impl.PostOut { return impl.PostTake(p, who) }
	got := heldPost(t, fmt.Sprintf("%+v: %d takes", p, who), p, call, postTakeByWords(p, who))
	same(t, "no number is told to who takes", got.N, int64(0))
	return got
}

func countedPost(t *testing.T, p impl.Post, who int64) impl.PostOut {
	t.Helper()
	call := func() impl.PostOut { return impl.PostCount(p, who) }
	got := heldPost(t, fmt.Sprintf("%+v: %d counts", p, who), p, call, postCountByWords(p, who))
	same(t, "no letter is told to who counts", got.Letter, impl.Letter{})
	return got
}

func seenPost(t *testing.T, p impl.Post, label int64) []int64 {
	t.Helper()
	before := copyPost(p)
	got := impl.PostSeen(p, label)
	what := fmt.Sprintf("%+v: seen by %d", p, label)
	alike(t, what, got, postSeenByWords(p, label))
	same(t, what+": handed in, not changed", equal(p, before), true)
	same(t, what+": new memory", newMemory(got, p), true)
	return got
}

// askedPost asks all of one Post, right or not.
func askedPost(t *testing.T, p impl.Post, right bool) {
	t.Helper()
	before := copyPost(p)
	same(t, fmt.Sprintf("%+v is right", p), impl.PostRight(p), right)
	same(t, fmt.Sprintf("%+v is right by the document", p), postRightByWords(p), right)
	same(t, "handed in, not changed", equal(p, before), true)
	for who := int64(-1); who <= 16; who++ {
		codes := []int64{sentLetter(t, p, 0, who, 7).Code, sentLetter(t, p, who, 15, 7).Code, sentLetter(t, p, who, who, 65535).Code}
		codes = append(codes, tookLetter(t, p, who).Code, countedPost(t, p, who).Code)
		seen := seenPost(t, p, who)
		if !right {
			same(t, "each call refuses it", codes, slices.Repeat([]int64{impl.ErrForm}, 5))
			same(t, "nothing of it is seen", len(seen), 0)
		}
	}
}
