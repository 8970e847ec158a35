package tests

import (
	"fmt"
	"slices"
	"sync"
	"testing"

	"loop.example/g00740/impl"
)

func (p past) root() impl.Handle {
	return impl.RootOf(p.machines[0].Kernel)
}

// ever are all names that were told in a run, the root's first.
func (p past) ever() []impl.Handle {
	out := []impl.Handle{p.root()}
	for i, c := range p.calls {
		if c.Word == impl.WdMake && p.replies[i].Code == impl.OK {
			out = append(out, p.replies[i].Handle)
		}
	}
	return out
}

// Promise 16, in long runs of calls by several labels: what is told is explained, and behind each call the plain kernel has
// just what the machine has.
func TestPlainExplainsLongRuns(t *testing.T) {
	t.Parallel()
	d := dice(141650939)
	many := map[string]int{}
	for round := range 30 {
		p := drawnPast(t, &d, []int{60, 200, 400}[round%3])
		p.notes(many)
		same(t, "explains", explained(t, p.root(), p.calls, p.replies), true)
		plain := impl.PlainNew(p.root()).Plain
		for i, c := range p.calls {
			out := impl.PlainDo(plain, c, p.replies[i])
			if out.Code != impl.OK || !equal(out.Plain, plainOf(p.machines[i+1], out.Plain.Ever)) {
				t.Fatalf("round %d: %+v told %+v: %+v", round, c, p.replies[i], out)
			}
			if i%7 == 0 {
				plainDone(t, plain, c, p.replies[i])
			}
			plain = out.Plain
		}
		same(t, "ever", slices.Equal(plain.Ever, p.ever()), true)
	}
	want := []string{"made again", "full arena", "full room", "stale", "6 8", "7 8"}
	for word := 1; word <= 12; word++ {
		want = append(want, fmt.Sprint(word, " 0"), fmt.Sprint(word, " 6"))
	}
	for _, word := range []int{1, 7, 8, 9, 11, 12} {
		want = append(want, fmt.Sprint(word, " 1"))
	}
	cameUp(t, many, want...)
}

// Runs of RunCalls, of drawn lengths; and what is left of them for each label, with the replies that are kept.
func TestPlainExplainsRunCalls(t *testing.T) {
	t.Parallel()
	d := dice(160481219)
	for range 60 {
		p := drawnPast(t, &d, d.draw(61))
		run := impl.RunCalls(p.seed, p.calls)
		root := impl.RootOf(run.Machine.Kernel)
		same(t, "explains", explained(t, root, p.calls, run.Replies), true)
		for label := range int64(16) {
			l, r := impl.Purge(p.calls, label), impl.Kept(p.calls, run.Replies, label)
			same(t, fmt.Sprint("what is left for ", label), impl.Explains(root, l, r), true)
			same(t, fmt.Sprint("what is told to ", label), impl.Explains(root, l, impl.RunCalls(p.seed, l).Replies), true)
		}
		for many := range p.calls {
			same(t, "up to some call", impl.Explains(root, p.calls[:many], run.Replies[:many]), true)
		}
	}
}

// Rooms and arenas that are full, and slots that are used up, by two labels and three.
func TestPlainExplainsWhatIsFull(t *testing.T) {
	t.Parallel()
	for _, order := range [][]int64{{1}, {2, 1}, {3, 2, 1}} {
		p, m := walled(t)
		for _, who := range order {
			m = busy(t, &p, m, who)
		}
		many := min(400, len(p.calls))
		same(t, "explains", explained(t, p.root(), p.calls[:many], p.replies[:many]), true)
		full := 0
		for i, r := range p.replies[:many] {
			if r.Code == impl.ErrFull {
				full++
				other := slices.Clone(p.replies[:many])
				other[i] = impl.Reply{Handle: impl.Handle{By: p.calls[i].Who, Id: 70000}}
				same(t, "one more, in place of full", impl.Explains(p.root(), p.calls[:i+1], other[:i+1]), true)
				explained(t, p.root(), p.calls[:many], other)
			}
		}
		if full < 10 {
			t.Errorf("full: %d", full)
		}
	}
}

// otherNames are names for these, each of the same By, and one of its own, with an Id above 0.
func otherNames(d *dice, ever []impl.Handle, way int) map[impl.Handle]impl.Handle {
	to := map[impl.Handle]impl.Handle{}
	used := map[impl.Handle]bool{}
	for i, h := range ever {
		var one impl.Handle
		for one.Id == 0 || used[one] {
			switch way {
			case 0: // small names, many of one Id
				one = impl.Handle{By: h.By, Id: int64(1 + d.draw(3)), Gen: int64(d.draw(3 + i))}
			case 1: // names that no kernel gives
				one = impl.Handle{By: h.By, Id: int64(65536 + d.draw(1<<40)), Gen: int64(d.draw(1<<40) - 1<<39)}
			case 2: // one by one, the last ones first
				one = impl.Handle{By: h.By, Id: int64(len(ever) - i), Gen: 3}
			default: // the same names, given to others
				one = ever[d.draw(len(ever))]
				one.By = h.By
			}
		}
		used[one], to[h] = true, one
	}
	return to
}

// named is what is told, by other names.
func named(r []impl.Reply, to map[impl.Handle]impl.Handle) []impl.Reply {
	out := slices.Clone(r)
	for i := range out {
		if other, is := to[out[i].Handle]; is {
			out[i].Handle = other
		}
		out[i].Handles = slices.Clone(out[i].Handles)
		for j, h := range out[i].Handles {
			out[i].Handles[j] = to[h]
		}
	}
	return out
}

// Promise 16: whichever names are given.
func TestPlainExplainsByAnyNames(t *testing.T) {
	t.Parallel()
	d := dice(179424673)
	for round := range 48 {
		p := drawnPast(t, &d, []int{60, 250, 400}[round%3])
		ever := p.ever()
		to := otherNames(&d, ever, round%4)
		r := named(p.replies, to)
		same(t, "explains by other names", explained(t, to[p.root()], p.calls, r), true)
		last := impl.PlainNew(to[p.root()]).Plain
		for i, c := range p.calls {
			last = impl.PlainDo(last, c, r[i]).Plain
		}
		want := plainOf(p.machines[len(p.calls)], ever)
		same(t, "as many things", len(last.Things), len(want.Things))
		for i, one := range want.Things {
			got := last.Things[i]
			same(t, "its name", got.Handle, to[one.Handle])
			same(t, "its Up", got.Up, to[one.Up])
			same(t, "else the same", []int64{got.Kind, got.Of, got.Order}, []int64{one.Kind, one.Of, one.Order})
			same(t, "its words", slices.Equal(got.Words, one.Words), true)
			same(t, "its maps", len(got.Maps), len(one.Maps))
		}
		same(t, "the root's name is told nowhere", impl.Explains(impl.Handle{Id: 1 << 50}, p.calls, r), true)
		if t.Failed() {
			t.FailNow()
		}
	}
}

// Two names that were told become one: the later Make is no reply that there may be.
func TestPlainTakesNoNameTwice(t *testing.T) {
	t.Parallel()
	d := dice(198491317)
	for range 20 {
		p := drawnPast(t, &d, 150)
		ever := p.ever()
		for range 20 {
			i, j := d.draw(len(ever)), d.draw(len(ever))
			if i == j || ever[i].By != ever[j].By {
				continue
			}
			to := map[impl.Handle]impl.Handle{}
			for _, h := range ever {
				to[h] = h
			}
			to[ever[i]] = ever[j]
			same(t, "two of one name", explained(t, to[p.root()], p.calls, named(p.replies, to)), false)
		}
	}
}

// turnedReplies are replies that differ from one in one field.
func turnedReplies(r impl.Reply, names []impl.Handle) []impl.Reply {
	var out []impl.Reply
	add := func(turn func(r *impl.Reply)) {
		one := r
		one.Handles = slices.Clone(r.Handles)
		turn(&one)
		if !equal(one, r) {
			out = append(out, one)
		}
	}
	for code := int64(-1); code <= 11; code++ {
		add(func(r *impl.Reply) { r.Code = code })
	}
	for _, n := range []int64{-1, 1, 10, 100, 65536, 1 << 62} {
		add(func(r *impl.Reply) { r.N += n })
		add(func(r *impl.Reply) { r.Handle.By += n })
		add(func(r *impl.Reply) { r.Handle.Id += n })
		add(func(r *impl.Reply) { r.Handle.Gen += n })
		for i := range r.Handles {
			add(func(r *impl.Reply) { r.Handles[i].Id += n })
			add(func(r *impl.Reply) { r.Handles[i].Gen += n })
			add(func(r *impl.Reply) { r.Handles[i].By += n })
		}
	}
	add(func(r *impl.Reply) { r.N = 0 })
	add(func(r *impl.Reply) { r.Handle = impl.Handle{} })
	add(func(r *impl.Reply) { r.Handles = nil })
	for _, h := range append([]impl.Handle{{}}, names...) {
		add(func(r *impl.Reply) { r.Handle = h })
		add(func(r *impl.Reply) { r.Handles = append(r.Handles, h) })
		add(func(r *impl.Reply) { r.Handles = slices.Insert(r.Handles, 0, h) })
	}
	for i := range r.Handles {
		add(func(r *impl.Reply) { r.Handles = slices.Delete(r.Handles, i, i+1) })
		add(func(r *impl.Reply) { r.Handles = append(r.Handles, r.Handles[i]) })
		add(func(r *impl.Reply) { r.Handles[0], r.Handles[i] = r.Handles[i], r.Handles[0] })
	}
	return out
}

// With one field of one reply turned nothing is explained, but for a Make of a box that is there: of that one another name, or
// ErrFull alone, may be told, if what is told behind it fits.
func TestPlainExplainsNothingElse(t *testing.T) {
	t.Parallel()
	d := dice(217645177)
	many := map[string]int{}
	for range 6 {
		p := drawnPast(t, &d, 60)
		ever := p.ever()
		for i, c := range p.calls {
			names := []impl.Handle{ever[d.draw(len(ever))], {By: c.Who, Id: 99}, {By: c.Who, Id: ever[d.draw(len(ever))].Id}}
			for _, other := range turnedReplies(p.replies[i], names) {
				r := slices.Clone(p.replies)
				r[i] = other
				got := impl.Explains(p.root(), p.calls, r)
				if c.Word != impl.WdMake && got {
					t.Fatalf("%+v, told %+v, is explained as told %+v", c, p.replies[i], other)
				}
				if c.Word == impl.WdMake {
					if got != explainsByWords(p.root(), p.calls, r) {
						t.Fatalf("%+v, told %+v: %v, as told %+v", c, p.replies[i], got, other)
					}
					many[fmt.Sprint("make ", got)]++
				}
				many[fmt.Sprint(c.Word)]++
			}
		}
		for _, root := range ever[1:] {
			same(t, "the root by another's name", impl.Explains(root, p.calls, p.replies), false)
		}
	}
	cameUp(t, many, "make true", "make false", "2", "3", "4", "5", "6", "7", "8", "9", "10", "11", "12")
}

// Replies of one run are none of another one, that is the same but for one call that turned something.
func TestPlainExplainsNoOtherRun(t *testing.T) {
	t.Parallel()
	d := dice(236887699)
	many := map[bool]int{}
	for range 20 {
		p := drawnPast(t, &d, 60)
		for i := range p.calls {
			l := slices.Clone(p.calls)
			l[i] = turned(&d, drawnCall(&d, p.machines[i]))
			many[explained(t, p.root(), l, p.replies)]++
			less := slices.Delete(slices.Clone(p.calls), i, i+1)
			told := slices.Delete(slices.Clone(p.replies), i, i+1)
			many[explained(t, p.root(), less, told)]++
		}
	}
	if many[true] < 100 || many[false] < 100 {
		t.Errorf("explained: %v", many)
	}
}

// Drawn replies to drawn calls, one after the other: what may be told is just what the document's words let be.
func TestPlainByTheDocument(t *testing.T) {
	t.Parallel()
	d := dice(256203161)
	many := map[string]int{}
	for range 40 {
		p := drawnPast(t, &d, d.draw(200))
		m := p.machines[len(p.calls)]
		plain := plainOf(m, p.ever())
		for range 40 {
			c := drawnCall(&d, m)
			told := impl.CallDo(m, c).Reply
			if d.draw(3) == 0 {
				others := turnedReplies(told, m.Told[0])
				told = others[d.draw(len(others))]
			}
			many[fmt.Sprint(plainDone(t, plain, c, told).Code)]++
		}
		if t.Failed() {
			t.FailNow()
		}
	}
	cameUp(t, many, "0", "1", "10")
}

// The same is told again and again, also by several goroutines at once.
func TestPlainAgainAndAtOnce(t *testing.T) {
	t.Parallel()
	d := dice(275604541)
	p := drawnPast(t, &d, 120)
	plain := plainOf(p.machines[120], p.ever())
	c := impl.Call{Word: impl.WdDrop, A: impl.Ref{N: 1}}
	told := impl.CallDo(p.machines[120], c).Reply
	want := fmt.Sprintf("%+v", impl.PlainDo(plain, c, told))
	ask := func() bool {
		return impl.Explains(p.root(), p.calls, p.replies) && fmt.Sprintf("%+v", impl.PlainDo(plain, c, told)) == want
	}
	var all sync.WaitGroup
	got := make([]bool, 24)
	for i := range got {
		all.Go(func() { got[i] = ask() && ask() })
	}
	all.Wait()
	same(t, "at once", slices.Contains(got, false), false)
}
