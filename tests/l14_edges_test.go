package tests

import (
	"fmt"
	"runtime"
	"slices"
	"testing"
	"time"

	"loop.example/g00740/impl"
)

// edgeNs are numbers of letters at their edges, right ones and wrong ones.
var edgeNs = append([]int64{-1, 0, 1, 65534, 65535, 65536}, wideNumbers...)

// edgeLosts are numbers of lost letters at their edges, right ones and wrong ones.
var edgeLosts = append([]int64{-1, 0, 1, 999998, 999999, 1000000}, wideNumbers...)

// boxWith is a Post in which that alone stands.
func boxWith(to int64, lost int64, letters ...impl.Letter) impl.Post {
	p := emptyPost()
	p.Boxes[to] = letters
	p.Lost[to] = lost
	return p
}

// places are the first one, the one in the middle and the last one of a list, as far as there are such.
func places(many int) []int {
	if many == 0 {
		return nil
	}
	return slices.Compact([]int{0, many / 2, many - 1})
}

func TestPostsOfSoManyBoxes(t *testing.T) {
	for _, boxes := range []int{0, 1, 15, 16, 17, 32, 400, 401} {
		for _, lost := range []int{0, 1, 15, 16, 17, 32, 400, 401} {
			p := impl.Post{Boxes: make([][]impl.Letter, boxes), Lost: make([]int64, lost)}
			askedPost(t, p, boxes == 16 && lost == 16)
		}
	}
	askedPost(t, impl.Post{}, false)
	askedPost(t, impl.PostNew(), true)
	last := boxWith(15, 7, lettersUpTo(5, 8)...)
	askedPost(t, last, true)
	askedPost(t, impl.Post{Boxes: last.Boxes[:15], Lost: last.Lost}, false)
	askedPost(t, impl.Post{Boxes: last.Boxes, Lost: last.Lost[:15]}, false)
	askedPost(t, impl.Post{Boxes: append(last.Boxes[:15:15], nil, nil), Lost: last.Lost}, false)
	askedPost(t, impl.Post{Boxes: last.Boxes, Lost: append(last.Lost[:16:16], 0)}, false)
}

func TestBoxesOfSoManyLetters(t *testing.T) {
	for to := range int64(16) {
		for _, many := range []int{0, 1, 4, 5, 6, 7, 10, 400, 401} {
			for _, lost := range []int64{0, 999999} {
				askedPost(t, boxWith(to, lost, lettersUpTo(many, 0)...), many <= 5)
			}
		}
	}
	all := emptyPost()
	for to := range int64(16) {
		all.Boxes[to], all.Lost[to] = lettersUpTo(5, to), 999990+to%9
	}
	askedPost(t, all, true)
	for to := range int64(16) {
		p := copyPost(all)
		p.Boxes[to] = append(p.Boxes[to], impl.Letter{From: to})
		askedPost(t, p, false)
	}
}

// A letter's From flows to the box's label: whichever place the letter has.
func TestFromsAtTheirEdges(t *testing.T) {
	for to := range int64(16) {
		for from := int64(-1); from <= 16; from++ {
			right := between(from, 0, 15) && flowsByLetters(from, to)
			for many := 1; many <= 5; many++ {
				for _, at := range places(many) {
					p := boxWith(to, 0, lettersUpTo(many, to&5)...)
					p.Boxes[to][at].From = from
					same(t, fmt.Sprintf("%+v", p), impl.PostRight(p), right)
				}
			}
			askedPost(t, boxWith(to, 3, impl.Letter{From: from, N: 9}), right)
		}
		for _, from := range noLabels {
			askedPost(t, boxWith(to, 3, impl.Letter{From: 0}, impl.Letter{From: from}), false)
		}
	}
}

func TestNumbersOfLettersAndOfWhatIsLost(t *testing.T) {
	for _, to := range []int64{0, 1, 6, 15} {
		for _, n := range edgeNs {
			for _, many := range []int{1, 2, 5} {
				for _, at := range places(many) {
					p := boxWith(to, 1, lettersUpTo(many, to)...)
					p.Boxes[to][at].N = n
					askedPost(t, p, between(n, 0, 65535))
				}
			}
		}
		for _, lost := range edgeLosts {
			for _, many := range []int{0, 1, 5} {
				askedPost(t, boxWith(to, lost, lettersUpTo(many, 0)...), between(lost, 0, 999999))
			}
		}
	}
}

// postsFor are boxes of one label in which there is none, some, and no room, each with nothing, something, and as much lost as
// can be.
func postsFor(to int64) []impl.Post {
	var out []impl.Post
	for _, many := range []int{0, 1, 4, 5} {
		for _, lost := range []int64{0, 7, 999998, 999999} {
			out = append(out, boxWith(to, lost, lettersUpTo(many, to)...))
		}
	}
	return out
}

// Promise 20: what one is told that sends hangs on from, to and n alone.
func TestWhatAPostSendTellsAtItsEdges(t *testing.T) {
	labels := append([]int64{-1, 0, 1, 2, 3, 5, 6, 7, 8, 12, 14, 15, 16}, noLabels...)
	for _, from := range labels {
		for _, to := range labels {
			for _, n := range []int64{-1, 0, 65535, 65536} {
				code := int64(impl.OK)
				if !between(from, 0, 15) || !between(to, 0, 15) || !between(n, 0, 65535) {
					code = impl.ErrForm
				} else if !flowsByLetters(from, to) {
					code = impl.ErrNone
				}
				for _, p := range postsFor(max(0, min(to, 15))) {
					got := impl.PostSend(p, from, to, n)
					same(t, fmt.Sprintf("%+v: %d from %d to %d", p, n, from, to), []any{got.Code, got.Letter, got.N}, []any{code, impl.Letter{}, int64(0)})
				}
			}
		}
	}
}

func TestPostSendAtItsEdges(t *testing.T) {
	for _, one := range [][2]int64{{0, 0}, {15, 15}, {0, 15}, {1, 3}, {3, 1}, {8, 7}, {7, 8}, {15, 0}, {16, 15}, {0, 16}, {-1, 15}, {0, -1}} {
		for _, n := range edgeNs {
			for _, p := range postsFor(max(0, min(one[1], 15))) {
				sentLetter(t, p, one[0], one[1], n)
			}
		}
	}
}

func TestSentBehindTheOthersOrLost(t *testing.T) {
	for _, one := range flowing() {
		from, to := one[0], one[1]
		letter := impl.Letter{From: from, N: 65535}
		for many := range 5 {
			got := sentLetter(t, boxWith(to, 12, lettersUpTo(many, to)...), from, to, 65535).Post
			alike(t, "behind the others", got, boxWith(to, 12, append(lettersUpTo(many, to), letter)...))
		}
		for lost, want := range map[int64]int64{0: 1, 1: 2, 999997: 999998, 999998: 999999, 999999: 999999} {
			full := boxWith(to, lost, lettersUpTo(5, to)...)
			alike(t, "lost", sentLetter(t, full, from, to, 65535).Post, boxWith(to, want, lettersUpTo(5, to)...))
			room := boxWith(to, lost, lettersUpTo(4, to)...)
			alike(t, "not lost", sentLetter(t, room, from, to, 65535).Post.Lost, room.Lost)
		}
	}
	d := &desk{t: t, p: boxWith(2, 999997, lettersUpTo(5, 0)...)}
	for _, lost := range []int64{999998, 999999, 999999, 999999} {
		d.sends(0, 2, 9, impl.OK)
		d.counts(2, 5, lost)
	}
	d.takes(2, 0, 100)
	d.sends(0, 2, 9, impl.OK)
	d.counts(2, 5, 999999)
}

// Of two faults of a send the first that is named: that anything is of a wrong form is named ahead of where it flows.
func TestTheOrderOfFaultsOfMail(t *testing.T) {
	right, wrong := boxWith(1, 3, lettersUpTo(5, 0)...), boxWith(1, 3, lettersUpTo(6, 0)...)
	for _, one := range []struct {
		what string
		p    impl.Post
		from int64
		to   int64
		n    int64
		code int64
	}{
		{"does not flow", right, 2, 1, 5, impl.ErrNone},
		{"does not flow to a box with room", right, 1, 2, 5, impl.ErrNone},
		{"does not flow, and no such Post", wrong, 2, 1, 5, impl.ErrForm},
		{"does not flow, and no such n", right, 2, 1, -1, impl.ErrForm},
		{"does not flow, and no such n", right, 2, 1, 65536, impl.ErrForm},
		{"no label, so it does not flow", right, 16, 1, 5, impl.ErrForm},
		{"no label, so it does not flow", right, 17, 1, 5, impl.ErrForm},
		{"no label, so nothing flows to it", right, 2, 17, 5, impl.ErrForm},
		{"no label, so nothing flows to it", right, 0, 16, 5, impl.ErrForm},
		{"no label, and no such n", right, -1, -1, -1, impl.ErrForm},
		{"no such Post, though it flows", wrong, 1, 1, 5, impl.ErrForm},
		{"no such Post, though that box is none of the wrong", wrong, 4, 4, 5, impl.ErrForm},
	} {
		same(t, one.what, sentLetter(t, one.p, one.from, one.to, one.n).Code, one.code)
	}
	for _, who := range []int64{-1, 0, 1, 15, 16} {
		same(t, "no such Post, and an empty box", tookLetter(t, wrong, who).Code, int64(impl.ErrForm))
		same(t, "no such Post", countedPost(t, wrong, who).Code, int64(impl.ErrForm))
	}
	for _, who := range noLabels {
		same(t, "no label, so it has no box", tookLetter(t, right, who).Code, int64(impl.ErrForm))
		same(t, "no label, so it has no box", tookLetter(t, impl.PostNew(), who).Code, int64(impl.ErrForm))
	}
}

func TestPostTakeAtItsEdges(t *testing.T) {
	for who := range int64(16) {
		for _, lost := range []int64{0, 1, 999999} {
			for many := range 6 {
				p := boxWith(who, lost, lettersUpTo(many, who)...)
				got := tookLetter(t, p, who)
				if many == 0 {
					alike(t, "an empty box", got, impl.PostOut{Code: impl.ErrNone})
					continue
				}
				same(t, "the first one", got.Letter, impl.Letter{From: who, N: 100})
				alike(t, "the others stay, in order", got.Post, boxWith(who, lost, lettersUpTo(many, who)[1:]...))
				for other := range int64(16) {
					if other != who {
						same(t, "another one's box", tookLetter(t, p, other).Code, int64(impl.ErrNone))
					}
				}
			}
		}
	}
	d := &desk{t: t, p: boxWith(9, 8, impl.Letter{From: 9, N: 4}, impl.Letter{}, impl.Letter{From: 9, N: 4}, impl.Letter{From: 1, N: 4}, impl.Letter{From: 8})}
	d.takes(9, 9, 4)
	d.takes(9, 0, 0)
	d.takes(9, 9, 4)
	d.takes(9, 1, 4)
	d.takes(9, 8, 0)
	d.hasNone(9)
}

func TestPostCountAtItsEdges(t *testing.T) {
	for who := range int64(16) {
		for many := range 6 {
			for lost, n := range map[int64]int64{0: 0, 1: 10, 5: 50, 12: 120, 999998: 9999980, 999999: 9999990} {
				p := boxWith(who, lost, lettersUpTo(many, 0)...)
				got := countedPost(t, p, who)
				same(t, "how many", got.N, n+int64(many))
				alike(t, "the Post is p", got.Post, p)
				same(t, "of another one", countedPost(t, p, 15-who).N, int64(0))
			}
		}
	}
	for _, who := range noLabels {
		alike(t, "no label", countedPost(t, boxWith(0, 3, lettersUpTo(5, 0)...), who), impl.PostOut{Code: impl.ErrForm})
	}
}

func TestPostSeenAtItsEdges(t *testing.T) {
	full := emptyPost()
	for to := range int64(16) {
		full.Boxes[to], full.Lost[to] = lettersUpTo(int(to)%6, to), to*60001
	}
	for _, p := range []impl.Post{impl.PostNew(), full} {
		for label := range int64(16) {
			want := 0
			for one := range int64(16) {
				if flowsByLetters(one, label) {
					want += 2 + 2*len(p.Boxes[one])
				}
			}
			same(t, "how much is seen", len(seenPost(t, p, label)), want)
		}
		for _, label := range append([]int64{-1, 16}, noLabels...) {
			same(t, "no label sees anything", len(seenPost(t, p, label)), 0)
		}
	}
	full.Boxes[5] = lettersUpTo(6, 5)
	for label := int64(-1); label <= 16; label++ {
		same(t, "nothing of a Post that is not right", len(seenPost(t, full, label)), 0)
	}
}

// Whatever is handed in is answered: one number of a Post is turned, or two, or a list has one more or fewer.
func TestPostsNearToARightOne(t *testing.T) {
	t.Parallel()
	whole := emptyPost()
	whole.Boxes[0], whole.Boxes[3], whole.Boxes[15] = lettersUpTo(1, 0), lettersUpTo(5, 1), lettersUpTo(4, 12)
	right, wrong := 0, 0
	ask := func(p impl.Post) {
		askedPost(t, p, postRightByWords(p))
		if postRightByWords(p) {
			right++
		} else {
			wrong++
		}
	}
	numbers := append([]int64{-1, 0, 1, 2, 3, 7, 15, 16, 65535, 65536, 999999, 1000000}, wideNumbers...)
	place := func(p *impl.Post, at int) *int64 {
		if at < 16 {
			return &p.Lost[at]
		}
		letters := []*impl.Letter{&p.Boxes[0][0], &p.Boxes[3][0], &p.Boxes[3][2], &p.Boxes[3][4], &p.Boxes[15][0], &p.Boxes[15][3]}
		one := letters[(at-16)/2]
		return []*int64{&one.From, &one.N}[at%2]
	}
	for at := range 28 {
		for _, n := range numbers {
			p := copyPost(whole)
			*place(&p, at) = n
			ask(p)
		}
	}
	d := dice(654118927)
	for range 300 {
		p := copyPost(whole)
		for range 2 {
			*place(&p, d.draw(28)) = numbers[d.draw(len(numbers))]
		}
		ask(p)
	}
	for to := range int64(16) {
		p := copyPost(whole)
		p.Boxes[to] = append(p.Boxes[to], impl.Letter{From: to})
		ask(p)
		p = copyPost(whole)
		p.Boxes = slices.Delete(p.Boxes, int(to), int(to)+1)
		ask(p)
		p.Lost = slices.Delete(p.Lost, int(to), int(to)+1)
		ask(p)
	}
	same(t, "some are right", right > 80, true)
	same(t, "most are not", wrong > 300, true)
}

// sharingPost is a Post whose boxes are all one list, with more behind it; and that list.
func sharingPost() (impl.Post, []impl.Letter) {
	list := []impl.Letter{{N: 1}, {N: 2}, {N: 3}, {N: 4}, {N: 5}, {N: 6}}
	p := impl.Post{Lost: make([]int64, 20), Boxes: make([][]impl.Letter, 20)}
	for to := range p.Boxes {
		p.Boxes[to] = list[:to%5]
		p.Lost[to] = 70 + int64(to)
	}
	p.Lost, p.Boxes = p.Lost[:16], p.Boxes[:16]
	return p, list
}

// Lists that are handed in may share memory: what is answered shares none, and nothing is written, not even behind a list.
func TestSharedListsOfPosts(t *testing.T) {
	for who := range int64(16) {
		p, list := sharingPost()
		lists, lost := p.Boxes[:20], p.Lost[:20]
		before, lostWas := fmt.Sprint(list, lists), slices.Clone(lost)
		same(t, "right", impl.PostRight(p), true)
		outs := []impl.PostOut{impl.PostSend(p, 0, who, 9), impl.PostTake(p, who), impl.PostCount(p, who)}
		for _, out := range outs {
			same(t, "new memory", newMemory(out, p, list, lists, lost), true)
			for _, box := range out.Post.Boxes {
				for i := range box {
					box[i] = impl.Letter{From: -7, N: -7}
				}
			}
			for i := range out.Post.Lost {
				out.Post.Lost[i] = -7
			}
		}
		seen := impl.PostSeen(p, who)
		same(t, "new memory", newMemory(seen, p, list, lists, lost), true)
		clear(seen)
		same(t, "handed in, not changed", fmt.Sprint(list, lists), before)
		same(t, "handed in, not changed", lost, lostWas)
		same(t, "not what has been answered", impl.PostCount(p, who).N, 10*(70+who)+who%5)
	}
}

func TestPostsNewEachTime(t *testing.T) {
	one, other := impl.PostNew(), impl.PostNew()
	same(t, "new memory", newMemory(one, other), true)
	one.Lost[3], one.Boxes[3] = 5, lettersUpTo(2, 3)
	alike(t, "not what has been answered", impl.PostNew(), emptyPost())
	alike(t, "not what has been answered", other, emptyPost())
	for _, p := range []impl.Post{impl.PostNew(), boxWith(3, 4, lettersUpTo(5, 3)...)} {
		all := []any{p}
		for who := range int64(16) {
			for _, out := range []impl.PostOut{impl.PostSend(p, 0, who, 9), impl.PostTake(p, who), impl.PostCount(p, who)} {
				same(t, "new memory each time", newMemory(out, all...), true)
				all = append(all, out)
			}
		}
	}
}

func TestEmptyBoxesAreNone(t *testing.T) {
	p := emptyPost()
	for to := range p.Boxes {
		p.Boxes[to] = []impl.Letter{}
	}
	askedPost(t, p, true)
	for who := range int64(16) {
		alike(t, "the same", impl.PostSend(p, who, who, 5), impl.PostSend(emptyPost(), who, who, 5))
		same(t, "nothing to take", impl.PostTake(p, who).Code, int64(impl.ErrNone))
	}
}

// None waits for ever, and nothing is left running behind a call: of what is empty, of what is full, of what is refused.
func TestNoMailIsWaitedFor(t *testing.T) {
	before := runtime.NumGoroutine()
	answered := make(chan bool)
	go func() {
		for range 50 {
			for who := int64(-1); who <= 16; who++ {
				for many := range 7 {
					p := boxWith(max(0, min(who, 15)), 999999, lettersUpTo(many, 0)...)
					impl.PostSend(p, 0, who, 9)
					impl.PostSend(p, who, 15, 9)
					impl.PostTake(p, who)
					impl.PostCount(p, who)
					impl.PostSeen(p, who)
				}
			}
		}
		close(answered)
	}()
	select {
	case <-answered:
	case <-time.After(time.Minute):
		t.Fatal("a call waits")
	}
	for range 100 {
		if runtime.NumGoroutine() <= before {
			return
		}
		time.Sleep(10 * time.Millisecond)
	}
	t.Errorf("%d goroutines, and %d before", runtime.NumGoroutine(), before)
}
