package tests

import (
	"fmt"
	"slices"
	"testing"

	"loop.example/g00740/impl"
)

// desk is a Post with which things are done by hand, one after the other.
type desk struct {
	t *testing.T
	p impl.Post
}

func newDesk(t *testing.T) *desk {
	t.Helper()
	p := impl.PostNew()
	alike(t, "at the beginning", p, emptyPost())
	return &desk{t: t, p: p}
}

// sends tries one letter, and asks that this code is told.
func (d *desk) sends(from int64, to int64, n int64, code int64) {
	d.t.Helper()
	got := sentLetter(d.t, d.p, from, to, n)
	same(d.t, fmt.Sprintf("%d from %d to %d", n, from, to), got.Code, code)
	if got.Code == impl.OK {
		d.p = got.Post
	}
}

// takes asks that this letter is the first one.
func (d *desk) takes(who int64, from int64, n int64) {
	d.t.Helper()
	got := tookLetter(d.t, d.p, who)
	same(d.t, fmt.Sprint(who, " takes"), []any{got.Letter, got.Code}, []any{impl.Letter{From: from, N: n}, int64(impl.OK)})
	d.p = got.Post
}

// hasNone asks that there is nothing to take.
func (d *desk) hasNone(who int64) {
	d.t.Helper()
	alike(d.t, fmt.Sprint(who, " has none"), tookLetter(d.t, d.p, who), impl.PostOut{Code: impl.ErrNone})
}

// counts asks how many there are, and how many were lost; when one has counted all is as it was.
func (d *desk) counts(who int64, many int64, lost int64) {
	d.t.Helper()
	got := countedPost(d.t, d.p, who)
	same(d.t, fmt.Sprint(who, " counts"), []int64{got.N, got.Code}, []int64{many + 10*lost, impl.OK})
	alike(d.t, "the Post is what it was", got.Post, d.p)
}

func (d *desk) sees(label int64, want ...int64) {
	d.t.Helper()
	alike(d.t, fmt.Sprint("seen by ", labelTexts[label]), seenPost(d.t, d.p, label), want)
}

func TestPostNewByHand(t *testing.T) {
	same(t, "MaxMail", impl.MaxMail, 5)
	d := newDesk(t)
	same(t, "right", impl.PostRight(d.p), true)
	same(t, "how many", []int{len(d.p.Boxes), len(d.p.Lost)}, []int{16, 16})
	for who := range int64(16) {
		same(t, "in the box", len(d.p.Boxes[who]), 0)
		same(t, "lost", d.p.Lost[who], int64(0))
		d.hasNone(who)
		d.counts(who, 0, 0)
	}
	d.sees(0, 0, 0)
	d.sees(1, 0, 0, 0, 0)
	d.sees(10, 0, 0, 0, 0, 0, 0, 0, 0)
}

func TestMailToOneselfByHand(t *testing.T) {
	d := newDesk(t)
	d.sends(6, 6, 500, impl.OK)
	d.sends(6, 6, 3, impl.OK)
	d.sends(6, 6, 500, impl.OK)
	d.counts(6, 3, 0)
	d.sees(6, 0, 0, 0, 0, 0, 0, 0, 3, 6, 500, 6, 3, 6, 500)
	d.takes(6, 6, 500)
	d.sends(6, 6, 0, impl.OK)
	d.takes(6, 6, 3)
	d.takes(6, 6, 500)
	d.counts(6, 1, 0)
	d.takes(6, 6, 0)
	d.hasNone(6)
	d.counts(6, 0, 0)
	alike(t, "all is as it was", d.p, emptyPost())
}

// Letters of several labels come in the order in which they were sent, whoever sent them.
func TestMailUpwardByHand(t *testing.T) {
	d := newDesk(t)
	d.sends(1, 3, 9, impl.OK)
	d.sends(0, 3, 8, impl.OK)
	d.sends(2, 3, 7, impl.OK)
	d.sends(3, 3, 6, impl.OK)
	d.sends(0, 1, 5, impl.OK)
	d.sends(0, 15, 4, impl.OK)
	d.sends(3, 7, 65535, impl.OK)
	d.sends(2, 7, 0, impl.OK)
	d.counts(3, 4, 0)
	d.counts(1, 1, 0)
	d.counts(7, 2, 0)
	d.counts(0, 0, 0)
	d.takes(3, 1, 9)
	d.takes(3, 0, 8)
	d.takes(7, 3, 65535)
	d.takes(3, 2, 7)
	d.takes(1, 0, 5)
	d.hasNone(1)
	d.takes(3, 3, 6)
	d.hasNone(3)
	d.takes(7, 2, 0)
	d.takes(15, 0, 4)
	d.hasNone(15)
	alike(t, "all is as it was", d.p, emptyPost())
}

// Seen are the boxes of all that flows to one, rising: of labels of no name, of one, of two and more.
func TestMailSeenByHand(t *testing.T) {
	d := newDesk(t)
	d.sends(0, 0, 11, impl.OK)
	d.sends(0, 1, 12, impl.OK)
	d.sends(1, 1, 13, impl.OK)
	d.sends(2, 2, 14, impl.OK)
	d.sends(1, 3, 15, impl.OK)
	d.sends(4, 6, 16, impl.OK)
	d.sends(8, 15, 17, impl.OK)
	for n := range int64(7) {
		d.sends(2, 3, 20+n, impl.OK)
	}
	upToB := []int64{0, 1, 0, 11, 0, 2, 0, 12, 1, 13, 0, 1, 2, 14}
	upToAB := slices.Concat(upToB, []int64{3, 5, 1, 15, 2, 20, 2, 21, 2, 22, 2, 23})
	upToABC := slices.Concat(upToAB, []int64{0, 0, 0, 0, 0, 1, 4, 16, 0, 0})
	d.sees(0, 0, 1, 0, 11)
	d.sees(1, 0, 1, 0, 11, 0, 2, 0, 12, 1, 13)
	d.sees(2, 0, 1, 0, 11, 0, 1, 2, 14)
	d.sees(4, 0, 1, 0, 11, 0, 0)
	d.sees(8, 0, 1, 0, 11, 0, 0)
	d.sees(3, upToAB...)
	d.sees(6, 0, 1, 0, 11, 0, 1, 2, 14, 0, 0, 0, 1, 4, 16)
	d.sees(5, 0, 1, 0, 11, 0, 2, 0, 12, 1, 13, 0, 0, 0, 0)
	d.sees(7, upToABC...)
	d.sees(15, append(upToABC, 0, 0, 0, 0, 0, 0, 0, 0, 0, 0, 0, 0, 0, 0, 0, 1, 8, 17)...)
	d.takes(3, 1, 15)
	d.sees(1, 0, 1, 0, 11, 0, 2, 0, 12, 1, 13)
	d.sees(3, append(upToB, 3, 4, 2, 20, 2, 21, 2, 22, 2, 23)...)
}

func TestMailDownwardAndBesideIsNotSent(t *testing.T) {
	d := newDesk(t)
	d.sends(1, 0, 5, impl.ErrNone)
	d.sends(2, 1, 5, impl.ErrNone)
	d.sends(1, 2, 5, impl.ErrNone)
	d.sends(3, 1, 5, impl.ErrNone)
	d.sends(3, 5, 5, impl.ErrNone)
	d.sends(15, 7, 5, impl.ErrNone)
	d.sends(15, 14, 5, impl.ErrNone)
	d.sends(8, 7, 5, impl.ErrNone)
	alike(t, "there is none of them", d.p, emptyPost())
}

// Who sends is told the same of a box that is full; what is lost is lost, also when there is room again.
func TestMailThatIsLostByHand(t *testing.T) {
	d := newDesk(t)
	for n := range int64(5) {
		d.sends(n%2, 9, 40+n, impl.OK)
		d.counts(9, n+1, 0)
	}
	d.sends(8, 9, 45, impl.OK)
	d.counts(9, 5, 1)
	d.sends(9, 9, 46, impl.OK)
	d.counts(9, 5, 2)
	d.sends(2, 9, 47, impl.ErrNone)
	d.counts(9, 5, 2)
	d.sees(9, 0, 0, 0, 0, 0, 0, 2, 5, 0, 40, 1, 41, 0, 42, 1, 43, 0, 44)
	d.takes(9, 0, 40)
	d.counts(9, 4, 2)
	d.sends(8, 9, 48, impl.OK)
	d.counts(9, 5, 2)
	d.sends(8, 9, 49, impl.OK)
	d.counts(9, 5, 3)
	d.takes(9, 1, 41)
	d.takes(9, 0, 42)
	d.takes(9, 1, 43)
	d.takes(9, 0, 44)
	d.takes(9, 8, 48)
	d.hasNone(9)
	d.counts(9, 0, 3)
	d.sees(9, 0, 0, 0, 0, 0, 0, 3, 0)
	d.sends(0, 9, 1, impl.OK)
	d.counts(9, 1, 3)
	for who := range int64(16) {
		if who != 9 {
			d.counts(who, 0, 0)
		}
	}
}

// Promise 20, by hand: what those do who may not be heard, and what one is told stays.
func TestMailWithAndWithoutTheOthersByHand(t *testing.T) {
	alone, among := newDesk(t), newDesk(t)
	each := []*desk{alone, among}
	others := func() {
		for n := range int64(8) {
			for _, to := range []int64{5, 8, 12, 15} {
				among.sends(4, to|4, n, impl.OK)
			}
			among.sends(4, 3, n, impl.ErrNone)
			among.sends(1, 2, n, impl.ErrNone)
			among.sends(7, 15, n, impl.OK)
		}
		among.takes(15, among.p.Boxes[15][0].From, among.p.Boxes[15][0].N)
		among.hasNone(9)
	}
	for round := range int64(3) {
		others()
		for _, d := range each {
			d.sends(1, 3, round, impl.OK)
			d.sends(0, 3, round, impl.OK)
			d.sends(2, 3, round, impl.OK)
		}
		others()
		for _, d := range each {
			d.takes(3, []int64{1, 0, 2}[round], 0)
			d.counts(3, []int64{2, 4, 4}[round], []int64{0, 0, 2}[round])
		}
	}
	for _, label := range []int64{0, 1, 2, 3} {
		alike(t, "what is seen", seenPost(t, among.p, label), seenPost(t, alone.p, label))
	}
}
