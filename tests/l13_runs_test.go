package tests

import (
	"fmt"
	"slices"
	"sync"
	"testing"

	"loop.example/g00740/impl"
)

// drawnOrder is an Order of few labels or of many, some of them more than once.
func drawnOrder(d *dice) []int64 {
	few := 1 + d.draw(16)
	var out []int64
	for range 1 + d.draw(16) {
		out = append(out, int64(d.draw(few)+16-few))
	}
	return out
}

// drawnTask is a task of a label in the Order; the fewer Ids it is drawn from the more often it is there already.
func drawnTask(d *dice, order []int64, ids int) impl.Task {
	need := int64(1 + d.draw([]int{1, 3, 99}[d.draw(3)]))
	return task(order[d.draw(len(order))], int64(1+d.draw(ids)), need)
}

// drawnSched is a schedule that no call has made; of no label there are more tasks than it may have.
func drawnSched(d *dice) impl.Sched {
	s := schedOf(drawnOrder(d), int64(d.draw([]int{1, 20, 999000}[d.draw(3)])))
	for range d.draw([]int{1, 10, 100}[d.draw(3)]) {
		one := drawnTask(d, s.Order, 60)
		if schedAddByWords(s, one.Label, one.Id, one.Need).Code == impl.OK {
			s.Tasks = append(s.Tasks, one)
		}
	}
	return s
}

// move is an add, or a tick, where it has no Id.
type move struct {
	one impl.Task
}

// drawnMoves are adds and ticks, with few Ids or many, and with long rows of either.
func drawnMoves(d *dice, order []int64, many int) []move {
	var out []move
	ids := []int{5, 50, 9999}[d.draw(3)]
	for len(out) < many {
		tick := d.draw(2) == 0
		for range 1 + d.draw(12) {
			if tick {
				out = append(out, move{})
				continue
			}
			one := drawnTask(d, order, ids)
			if d.draw(12) == 0 {
				one = task(int64(d.draw(18)-1), int64(1+d.draw(ids)), int64(d.draw(102)))
			}
			out = append(out, move{one})
		}
	}
	return out
}

// heard is all that one label is told in a run of moves: of each of its own adds the code, of each tick what of it runs, and
// behind each of these which tasks it has, and when that is.
func heard(t *testing.T, s impl.Sched, moves []move, label int64) []string {
	t.Helper()
	var out []string
	for _, m := range moves {
		told := ""
		if m.one.Id == 0 {
			got := impl.SchedTick(s)
			same(t, "a tick", got.Code, int64(impl.OK))
			if got.Ran.Id > 0 && got.Ran.Label == label {
				told = fmt.Sprintf("runs %+v", got.Ran)
			}
			s = got.Sched
		} else {
			got := impl.SchedAdd(s, m.one.Label, m.one.Id, m.one.Need)
			if got.Code == impl.OK {
				s = got.Sched
			}
			if m.one.Label != label {
				continue
			}
			told = fmt.Sprintf("adds %+v: %d", m.one, got.Code)
		}
		out = append(out, fmt.Sprintf("at %d %s, has %+v", s.Now, told, impl.TasksOf(s, label)))
	}
	return out
}

// withoutOthers is a schedule, and moves, of one label alone, but for the ticks.
func withoutOthers(s impl.Sched, moves []move, label int64) (impl.Sched, []move) {
	s.Tasks = tasksByWords(s.Tasks, label)
	return s, slices.DeleteFunc(slices.Clone(moves), func(m move) bool { return m.one.Id > 0 && m.one.Label != label })
}

// Promise 19: what one is told is the same when all that the others add is left out.
func TestOneIsToldWhatOneWouldBeToldAlone(t *testing.T) {
	t.Parallel()
	d := dice(533000389)
	for round := range 250 {
		s := newSched(t, drawnOrder(&d)).Sched
		if round%2 == 0 {
			s = drawnSched(&d)
		}
		moves := drawnMoves(&d, s.Order, 120)
		for label := range int64(16) {
			all := heard(t, s, moves, label)
			alone, own := withoutOthers(s, moves, label)
			same(t, fmt.Sprint("of ", label), all, heard(t, alone, own, label))
		}
		if t.Failed() {
			t.FailNow()
		}
	}
}

// Promise 19: of the ticks of a run, too, the same are one's own, whatever the others have.
func TestARunIsOnesOwnWhateverTheOthersHave(t *testing.T) {
	t.Parallel()
	d := dice(553105253)
	for range 400 {
		s := drawnSched(&d)
		all := ranTurns(t, s, 200)
		for _, label := range s.Order {
			alone, _ := withoutOthers(s, nil, label)
			for i, ran := range ranTurns(t, alone, 200) {
				mine := all[i]
				if mine.Id == 0 || mine.Label != label {
					mine = impl.Task{}
				}
				same(t, fmt.Sprint("of ", label, " at ", s.Now+int64(i)), mine, ran)
			}
		}
	}
}

// Promise 19: whether one more is taken, and that it is, whatever the others have had.
func TestOneMoreIsTakenAsIfAlone(t *testing.T) {
	t.Parallel()
	d := dice(573259391)
	many := map[string]int{}
	for range 4000 {
		s := drawnSched(&d)
		one := drawnTask(&d, s.Order, 60)
		alone, _ := withoutOthers(s, nil, one.Label)
		got, own := addedTask(t, s, one), addedTask(t, alone, one)
		same(t, fmt.Sprintf("%+v: %+v", s, one), got.Code, own.Code)
		if got.Code == impl.OK {
			alike(t, "and then its tasks", tasksTold(t, got.Sched, one.Label), own.Sched.Tasks)
		}
		many[fmt.Sprint(got.Code)]++
	}
	cameUp(t, many, "0", "7", "9")
}

// diary is a schedule that is gone on with, and what of it ran.
type diary struct {
	s    impl.Sched
	ran  []impl.Task
	many map[string]int
}

// follow does one move, each held against the document's words.
func (b *diary) follow(t *testing.T, m move) {
	t.Helper()
	var got impl.SchedOut
	if m.one.Id == 0 {
		got = ticked(t, b.s)
		whose := b.s.Order[b.s.Now%int64(len(b.s.Order))]
		own := tasksTold(t, b.s, whose)
		same(t, "one runs, if there is one", got.Ran.Id > 0, len(own) > 0)
		if len(own) > 0 {
			same(t, "of the label whose turn it is the first one", got.Ran, own[0])
			b.many["runs"]++
		} else {
			b.many["idles"]++
		}
		b.ran = append(b.ran, got.Ran)
	} else {
		got = addedTask(t, b.s, m.one)
		b.many[fmt.Sprint("adds ", got.Code)]++
	}
	if got.Code == impl.OK {
		same(t, "right it stays", impl.SchedRight(got.Sched), true)
		b.s = got.Sched
	}
}

// Each move is what the document says, and all goes on rightly.
func TestDrawnSchedulesByTheDocument(t *testing.T) {
	t.Parallel()
	d := dice(593441861)
	many := map[string]int{}
	for round := range 150 {
		first := newSched(t, drawnOrder(&d)).Sched
		if round%3 == 0 {
			first = drawnSched(&d)
		}
		b := diary{s: first, many: many}
		for _, m := range drawnMoves(&d, first.Order, 90) {
			b.follow(t, m)
		}
		for label := int64(-1); label <= 16; label++ {
			tasksTold(t, b.s, label)
		}
		ranTurns(t, b.s, int64(d.draw(202)))
		b.ran = nil
		end := b.s
		for range 60 {
			b.follow(t, move{})
		}
		alike(t, "a run is its ticks", ranTurns(t, end, 60), b.ran)
		if t.Failed() {
			t.FailNow()
		}
	}
	cameUp(t, many, "runs", "idles", "adds 0", "adds 1", "adds 7", "adds 9")
}

// A task runs Need times, each time with one less, and then no more.
func TestATaskRunsAsOftenAsItNeeds(t *testing.T) {
	t.Parallel()
	d := dice(613651349)
	for range 60 {
		s := drawnSched(&d)
		s.Now = int64(d.draw(1000)) // so that there are ticks enough
		ran := map[[2]int64][]int64{}
		left := int64(0)
		for _, one := range s.Tasks {
			left += one.Need
		}
		end := copySched(s)
		for len(end.Tasks) > 0 && left > 0 {
			got := impl.SchedTick(end)
			if one := got.Ran; one.Id > 0 {
				name := [2]int64{one.Label, one.Id}
				ran[name] = append(ran[name], one.Need)
				left--
			}
			end = got.Sched
		}
		same(t, "nothing is left", len(end.Tasks), 0)
		same(t, "no more than was needed", left, int64(0))
		same(t, "none but these", len(ran), len(s.Tasks))
		for _, one := range s.Tasks {
			var want []int64
			for need := one.Need; need > 0; need-- {
				want = append(want, need)
			}
			same(t, fmt.Sprintf("%+v", one), ran[[2]int64{one.Label, one.Id}], want)
		}
		for _, one := range ranTurns(t, end, 50) {
			same(t, "and nothing runs any more", one, impl.Task{})
		}
	}
}

// Nothing is kept from one call to the next, and what others do meanwhile turns nothing.
func TestSchedulesAgainAndAtOnce(t *testing.T) {
	t.Parallel()
	d := dice(633910111)
	var all []impl.Sched
	var want []string
	ask := func(s impl.Sched) string {
		text := fmt.Sprintf("%+v %+v %+v", impl.SchedRun(s, 200), impl.SchedTick(s), impl.SchedNew(s.Order))
		for label := range int64(16) {
			text += fmt.Sprintf("%+v %+v", impl.SchedAdd(s, label, 5, 5), impl.TasksOf(s, label))
		}
		return text
	}
	for range 8 {
		all = append(all, drawnSched(&d))
		want = append(want, ask(all[len(all)-1]))
	}
	got := make([]string, 64)
	var others sync.WaitGroup
	for i := range got {
		others.Go(func() { got[i] = ask(all[i%8]) })
	}
	others.Wait()
	for i, one := range got {
		same(t, "at once", one == want[i%8], true)
	}
}
