package tests

import (
	"fmt"
	"slices"
	"sync"
	"testing"

	"loop.example/g00740/impl"
)

// post office deeds: who sends, takes, counts or looks.
const (
	sends = iota
	takes
	counts
	looks
)

// deed is one call: who does it, and, where something is sent, to whom, and what.
type deed struct {
	what int
	who  int64
	to   int64
	n    int64
}

// drawnLabels are few labels or many; the fewer there are the more often a box is full.
func drawnLabels(d *dice) []int64 {
	var out []int64
	for range []int{1, 2, 3, 5, 12}[d.draw(5)] {
		out = append(out, int64(d.draw(16)))
	}
	return out
}

// drawnDeeds are long rows of one kind, so that boxes get full, and empty again; some of them are wrong.
func drawnDeeds(d *dice, many int) []deed {
	var out []deed
	labels := drawnLabels(d)
	one := func() int64 {
		if d.draw(20) == 0 {
			return int64(d.draw(18) - 1)
		}
		return labels[d.draw(len(labels))]
	}
	for len(out) < many {
		what := []int{sends, sends, sends, takes, takes, counts, looks}[d.draw(7)]
		to := one()
		for range 1 + d.draw(9) {
			next := deed{what: what, who: to, to: to, n: int64(d.draw(65536))}
			if what == sends {
				next.who = one()
				if d.draw(3) > 0 && between(next.who, 0, 15) && between(to, 0, 15) {
					next.who = byLetters(next.who, to, both)
				}
			} else if d.draw(4) == 0 {
				next.who = one()
			}
			if d.draw(30) == 0 {
				next.n = []int64{-1, 65536}[d.draw(2)]
			}
			out = append(out, next)
		}
	}
	return out
}

// drawnPost is a Post that no call has made; often there is much in it.
func drawnPost(d *dice) impl.Post {
	p := emptyPost()
	for to := range int64(16) {
		for range []int{0, d.draw(6), 5}[d.draw(3)] {
			p.Boxes[to] = append(p.Boxes[to], impl.Letter{From: byLetters(int64(d.draw(16)), to, both), N: int64(d.draw(65536))})
		}
		p.Lost[to] = []int64{0, int64(d.draw(1000)), 999998, 999999}[d.draw(4)]
	}
	return p
}

// does is what is told of one deed, and the Post behind it.
func (one deed) does(p impl.Post) (string, impl.Post) {
	var got impl.PostOut
	switch one.what {
	case sends:
		got = impl.PostSend(p, one.who, one.to, one.n)
	case takes:
		got = impl.PostTake(p, one.who)
	case counts:
		got = impl.PostCount(p, one.who)
	case looks:
		return fmt.Sprint(impl.PostSeen(p, one.who)), p
	}
	if got.Code == impl.OK {
		p = got.Post
	}
	return fmt.Sprint(got.Code, got.Letter, got.N), p
}

// mailHeard is all that is told to those who may be heard by a label, and all that it may know behind each of it.
func mailHeard(p impl.Post, deeds []deed, label int64) []string {
	var out []string
	for _, one := range deeds {
		told := ""
		told, p = one.does(p)
		if impl.LabelRight(one.who) && flowsByLetters(one.who, label) {
			out = append(out, fmt.Sprintf("%+v: %s, seen: %v", one, told, impl.PostSeen(p, label)))
		}
	}
	return append(out, fmt.Sprintf("in the end: %+v %v %v", impl.PostTake(p, label).Letter, impl.PostCount(p, label).N, impl.PostSeen(p, label)))
}

// withoutTheUnheard are the deeds of those alone who may be heard by a label.
func withoutTheUnheard(deeds []deed, label int64) []deed {
	return slices.DeleteFunc(slices.Clone(deeds), func(one deed) bool { return !between(one.who, 0, 15) || !flowsByLetters(one.who, label) })
}

// Promise 20: what one is told when one takes, counts and looks is the same when all that those do is left out who do not flow
// to one, whatever is in the boxes that one may not look into.
func TestMailIsWhatItWouldBeWithoutTheUnheard(t *testing.T) {
	t.Parallel()
	d := dice(674328581)
	for round := range 200 {
		p, other := impl.PostNew(), drawnPost(&d)
		if round%2 == 0 {
			p = drawnPost(&d)
		}
		deeds := drawnDeeds(&d, 100)
		for label := range int64(16) {
			alone := copyPost(p)
			for to := range int64(16) {
				if !flowsByLetters(to, label) {
					alone.Boxes[to], alone.Lost[to] = other.Boxes[to], other.Lost[to]
				}
			}
			own := withoutTheUnheard(deeds, label)
			all := mailHeard(p, deeds, label)
			same(t, fmt.Sprint("of ", label), all, mailHeard(alone, own, label))
			same(t, "as much as is left", len(all), len(own)+1)
		}
		if t.Failed() {
			t.FailNow()
		}
	}
}

// Promise 20: what a send tells hangs on from, to and n alone, whatever is in any box.
func TestWhoSendsIsToldTheSameOfAnyBox(t *testing.T) {
	t.Parallel()
	d := dice(694540217)
	many := map[string]int{}
	for range 4000 {
		from, to, n := int64(d.draw(18)-1), int64(d.draw(18)-1), []int64{-1, 0, 65535, 65536, int64(d.draw(65536))}[d.draw(5)]
		first := impl.PostSend(impl.PostNew(), from, to, n)
		for range 6 {
			p := drawnPost(&d)
			got := sentLetter(t, p, from, to, n)
			same(t, fmt.Sprintf("%d from %d to %d", n, from, to), []any{got.Code, got.Letter, got.N}, []any{first.Code, impl.Letter{}, int64(0)})
			if got.Code == impl.OK && len(p.Boxes[to]) == 5 {
				many["lost"]++
			}
		}
		many[fmt.Sprint(first.Code)]++
	}
	cameUp(t, many, "0", "1", "6", "lost")
}

// ledger is all that was ever sent to a label and not lost, how many of these were taken, and how often more were sent.
type ledger struct {
	letters []impl.Letter
	taken   int
	lost    int64
}

// ledgersOf are those of a Post, as it stands.
func ledgersOf(p impl.Post) []*ledger {
	var out []*ledger
	for to := range p.Boxes {
		out = append(out, &ledger{letters: slices.Clone(p.Boxes[to]), lost: p.Lost[to]})
	}
	return out
}

// enter puts one more deed down, and tells what it must tell, but for what is seen.
func (one deed) enter(books []*ledger, many map[string]int) string {
	none := impl.Letter{}
	if !between(one.who, 0, 15) || one.what == sends && (!between(one.to, 0, 15) || !between(one.n, 0, 65535)) {
		return fmt.Sprint(impl.ErrForm, none, 0)
	}
	switch one.what {
	case sends:
		b := books[one.to]
		if !flowsByLetters(one.who, one.to) {
			return fmt.Sprint(impl.ErrNone, none, 0)
		}
		if len(b.letters)-b.taken == 5 {
			b.lost++
			many["lost"]++
		} else {
			b.letters = append(b.letters, impl.Letter{From: one.who, N: one.n})
		}
		return fmt.Sprint(impl.OK, none, 0)
	case takes:
		b := books[one.who]
		if b.taken == len(b.letters) {
			many["empty"]++
			return fmt.Sprint(impl.ErrNone, none, 0)
		}
		b.taken++
		many["taken"]++
		return fmt.Sprint(impl.OK, b.letters[b.taken-1], 0)
	}
	b := books[one.who]
	return fmt.Sprint(impl.OK, none, int64(len(b.letters)-b.taken)+10*min(b.lost, 999999))
}

// What is in a box is what was sent and not taken, five at most, in the order in which it was sent; Lost is how often more were
// sent.
func TestMailIsWhatWasSentAndNotTaken(t *testing.T) {
	t.Parallel()
	d := dice(714752221)
	many := map[string]int{}
	for round := range 300 {
		p := impl.PostNew()
		if round%2 == 0 {
			p = drawnPost(&d)
		}
		books := ledgersOf(p)
		for _, one := range drawnDeeds(&d, 150) {
			told, next := one.does(p)
			if one.what != looks {
				same(t, fmt.Sprintf("%+v", one), told, one.enter(books, many))
			}
			p = next
			for to, b := range books {
				alike(t, "in the box", p.Boxes[to], append([]impl.Letter{}, b.letters[b.taken:]...))
				same(t, "lost", p.Lost[to], min(b.lost, 999999))
			}
		}
		for to, b := range books {
			for b.taken < len(b.letters) {
				got := tookLetter(t, p, int64(to))
				same(t, "what is left", got.Letter, b.letters[b.taken])
				p = got.Post
				b.taken++
			}
			same(t, "nothing is left", tookLetter(t, p, int64(to)).Code, int64(impl.ErrNone))
		}
		if t.Failed() {
			t.FailNow()
		}
	}
	cameUp(t, many, "lost", "empty", "taken")
}

// Each deed is what the document says; a send turns no box but that of whom it is sent to, a take none but one's own.
func TestDrawnMailByTheDocument(t *testing.T) {
	t.Parallel()
	d := dice(734964947)
	for round := range 80 {
		p := impl.PostNew()
		if round%2 == 0 {
			p = drawnPost(&d)
		}
		for _, one := range drawnDeeds(&d, 100) {
			got := impl.PostOut{Code: impl.OK, Post: p}
			turned := one.who
			switch one.what {
			case sends:
				got, turned = sentLetter(t, p, one.who, one.to, one.n), one.to
			case takes:
				got = tookLetter(t, p, one.who)
			case counts:
				got, turned = countedPost(t, p, one.who), -1
			case looks:
				seenPost(t, p, one.who)
			}
			if got.Code != impl.OK {
				continue
			}
			for to := range int64(16) {
				if to != turned {
					alike(t, "another box", []any{got.Post.Boxes[to], got.Post.Lost[to]}, []any{p.Boxes[to], p.Lost[to]})
				}
			}
			p = got.Post
		}
		if t.Failed() {
			t.FailNow()
		}
	}
}

// Nothing is kept from one call to the next, and what others do meanwhile turns nothing.
func TestMailAgainAndAtOnce(t *testing.T) {
	t.Parallel()
	d := dice(755177767)
	var all []impl.Post
	var want []string
	ask := func(p impl.Post) string {
		text := fmt.Sprintf("%+v", impl.PostNew())
		for who := range int64(16) {
			text += fmt.Sprintf("%+v %+v %+v %v", impl.PostSend(p, 0, who, 5), impl.PostTake(p, who), impl.PostCount(p, who), impl.PostSeen(p, who))
		}
		return text
	}
	for range 8 {
		all = append(all, drawnPost(&d))
		want = append(want, ask(all[len(all)-1]))
	}
	got := make([]string, 64)
	var others sync.WaitGroup
	for i := range got {
		others.Go(func() { got[i] = ask(all[i%8]) })
	}
	others.Wait()
	for i, one := range got {
		same(t, "at once", one == want[i%8], true)
	}
}
