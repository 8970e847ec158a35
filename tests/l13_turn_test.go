package tests

import (
	"fmt"
	"testing"

	"loop.example/g00740/impl"
)

// stage is a schedule with which things are done by hand, one after the other.
type stage struct {
	t *testing.T
	s impl.Sched
}

func newStage(t *testing.T, order ...int64) *stage {
	t.Helper()
	got := newSched(t, order)
	alike(t, "at the beginning", got, impl.SchedOut{Sched: schedOf(order, 0)})
	return &stage{t: t, s: got.Sched}
}

// adds tries one task, and asks that this code is told.
func (g *stage) adds(one impl.Task, code int64) {
	g.t.Helper()
	got := addedTask(g.t, g.s, one)
	same(g.t, fmt.Sprintf("add %+v", one), got.Code, code)
	if got.Code == impl.OK {
		g.s = got.Sched
	}
}

// runs is a tick in which that runs, and behind which those tasks stand.
func (g *stage) runs(ran impl.Task, behind ...impl.Task) {
	g.t.Helper()
	now := g.s.Now
	got := ticked(g.t, g.s)
	alike(g.t, fmt.Sprint("the tick of ", now), got, impl.SchedOut{Sched: schedOf(g.s.Order, now+1, behind...), Ran: ran})
	g.s = got.Sched
}

// idles is a tick in which nothing runs.
func (g *stage) idles() {
	g.t.Helper()
	g.runs(impl.Task{}, g.s.Tasks...)
}

func (g *stage) has(label int64, want ...impl.Task) {
	g.t.Helper()
	alike(g.t, fmt.Sprint("the tasks of ", label), tasksTold(g.t, g.s, label), append([]impl.Task{}, want...))
}

// will asks what runs in the ticks that come.
func (g *stage) will(want ...impl.Task) {
	g.t.Helper()
	alike(g.t, "what runs", ranTurns(g.t, g.s, int64(len(want))), want)
}

func TestOneLabelAloneByHand(t *testing.T) {
	g := newStage(t, 5)
	g.idles()
	g.adds(task(5, 10, 2), impl.OK)
	g.adds(task(5, 4, 1), impl.OK)
	g.adds(task(5, 9999, 3), impl.OK)
	g.has(5, task(5, 10, 2), task(5, 4, 1), task(5, 9999, 3))
	g.has(4)
	g.will(task(5, 10, 2), task(5, 4, 1), task(5, 9999, 3), task(5, 10, 1), task(5, 9999, 2), task(5, 9999, 1), impl.Task{}, impl.Task{})
	g.runs(task(5, 10, 2), task(5, 4, 1), task(5, 9999, 3), task(5, 10, 1))
	g.adds(task(5, 10, 7), impl.ErrThere)
	g.runs(task(5, 4, 1), task(5, 9999, 3), task(5, 10, 1))
	g.adds(task(5, 4, 1), impl.OK)
	g.runs(task(5, 9999, 3), task(5, 10, 1), task(5, 4, 1), task(5, 9999, 2))
	g.runs(task(5, 10, 1), task(5, 4, 1), task(5, 9999, 2))
	g.runs(task(5, 4, 1), task(5, 9999, 2))
	g.runs(task(5, 9999, 2), task(5, 9999, 1))
	g.runs(task(5, 9999, 1))
	g.idles()
	g.has(5)
	same(t, "as many ticks as there were", g.s.Now, int64(9))
}

func TestTwoLabelsByHand(t *testing.T) {
	g := newStage(t, 0, 1)
	g.adds(task(1, 7, 2), impl.OK)
	g.adds(task(1, 8, 1), impl.OK)
	g.adds(task(2, 7, 1), impl.ErrForm)
	g.idles()
	g.runs(task(1, 7, 2), task(1, 8, 1), task(1, 7, 1))
	g.adds(task(0, 7, 2), impl.OK)
	g.has(0, task(0, 7, 2))
	g.has(1, task(1, 8, 1), task(1, 7, 1))
	g.will(task(0, 7, 2), task(1, 8, 1), task(0, 7, 1), task(1, 7, 1), impl.Task{}, impl.Task{})
	g.runs(task(0, 7, 2), task(1, 8, 1), task(1, 7, 1), task(0, 7, 1))
	g.runs(task(1, 8, 1), task(1, 7, 1), task(0, 7, 1))
	g.runs(task(0, 7, 1), task(1, 7, 1))
	g.runs(task(1, 7, 1))
	g.idles()
	g.idles()
}

// A label that is in the Order more than once has more turns, and may have more.
func TestALabelMoreThanOnceByHand(t *testing.T) {
	g := newStage(t, 3, 0, 3, 15, 3)
	for id := int64(1); id <= 24; id++ {
		g.adds(task(3, id, 1), impl.OK)
	}
	g.adds(task(3, 25, 1), impl.ErrFull)
	for id := int64(1); id <= 8; id++ {
		g.adds(task(0, id, 2), impl.OK)
	}
	g.adds(task(0, 9, 2), impl.ErrFull)
	g.adds(task(0, 8, 2), impl.ErrThere)
	g.adds(task(15, 1, 99), impl.OK)
	g.will(task(3, 1, 1), task(0, 1, 2), task(3, 2, 1), task(15, 1, 99), task(3, 3, 1), task(3, 4, 1), task(0, 2, 2), task(3, 5, 1), task(15, 1, 98), task(3, 6, 1))
	same(t, "how many there are", len(g.s.Tasks), 33)
	for range 5 {
		g.s = ticked(t, g.s).Sched
	}
	same(t, "how many are left", len(g.s.Tasks), 30)
	for id := int64(1); id <= 3; id++ {
		g.adds(task(3, id, 1), impl.OK)
	}
	g.adds(task(3, 25, 1), impl.ErrFull)
	g.adds(task(0, 9, 2), impl.ErrFull)
	g.has(15, task(15, 1, 98))
}

// One's place in the line of all tells nothing of whose turn it is: the first task of the label whose turn it is runs.
func TestOthersBeforeBetweenAndBehind(t *testing.T) {
	for _, one := range []struct {
		what  string
		tasks []impl.Task
		ran   impl.Task
		left  []impl.Task
	}{
		{"nothing at all", nil, impl.Task{}, nil},
		{"others alone", []impl.Task{task(1, 1, 1), task(2, 1, 5)}, impl.Task{}, []impl.Task{task(1, 1, 1), task(2, 1, 5)}},
		{"one with a Need of 1", []impl.Task{task(4, 1, 1)}, task(4, 1, 1), nil},
		{"one with a Need of 2", []impl.Task{task(4, 1, 2)}, task(4, 1, 2), []impl.Task{task(4, 1, 1)}},
		{"one with a Need of 99", []impl.Task{task(4, 9999, 99)}, task(4, 9999, 99), []impl.Task{task(4, 9999, 98)}},
		{"others before", []impl.Task{task(1, 1, 9), task(2, 1, 9), task(4, 1, 1)}, task(4, 1, 1), []impl.Task{task(1, 1, 9), task(2, 1, 9)}},
		{"others behind", []impl.Task{task(4, 1, 1), task(1, 1, 9), task(2, 1, 9)}, task(4, 1, 1), []impl.Task{task(1, 1, 9), task(2, 1, 9)}},
		{"others behind, and more to do", []impl.Task{task(4, 1, 3), task(1, 1, 9), task(2, 1, 9)}, task(4, 1, 3),
			[]impl.Task{task(1, 1, 9), task(2, 1, 9), task(4, 1, 2)}},
		{"several", []impl.Task{task(4, 3, 2), task(4, 1, 1), task(4, 2, 5)}, task(4, 3, 2), []impl.Task{task(4, 1, 1), task(4, 2, 5), task(4, 3, 1)}},
		{"several, the first one done", []impl.Task{task(4, 3, 1), task(4, 1, 1), task(4, 2, 5)}, task(4, 3, 1), []impl.Task{task(4, 1, 1), task(4, 2, 5)}},
		{"others before, between and behind", []impl.Task{task(2, 8, 1), task(4, 3, 2), task(1, 3, 1), task(4, 1, 1), task(2, 1, 4)}, task(4, 3, 2),
			[]impl.Task{task(2, 8, 1), task(1, 3, 1), task(4, 1, 1), task(2, 1, 4), task(4, 3, 1)}},
		{"by the same Ids", []impl.Task{task(1, 5, 1), task(2, 5, 1), task(4, 5, 1)}, task(4, 5, 1), []impl.Task{task(1, 5, 1), task(2, 5, 1)}},
	} {
		order := []int64{1, 2, 4, 2}
		for _, now := range []int64{2, 6, 10, 4002, 999998} {
			g := &stage{t: t, s: schedOf(order, now, one.tasks...)}
			same(t, one.what, impl.SchedRight(g.s), true)
			g.runs(one.ran, one.left...)
		}
	}
}

func TestWhoseTurnItIsHangsOnNow(t *testing.T) {
	order := []int64{0, 3, 3, 15, 1, 0, 7}
	tasks := []impl.Task{task(15, 1, 5), task(7, 2, 5), task(3, 3, 5), task(0, 4, 5), task(1, 5, 5)}
	ids := []int64{4, 3, 3, 1, 5, 4, 2}
	for _, now := range []int64{0, 1, 2, 3, 4, 5, 6, 7, 8, 13, 14, 15, 70, 75, 700006, 999991, 999996, 999997, 999998} {
		got := ticked(t, schedOf(order, now, tasks...))
		same(t, fmt.Sprint("at ", now), got.Ran.Id, ids[now%7])
		same(t, fmt.Sprint("behind ", now), got.Sched.Now, now+1)
	}
	for many := range int64(16) {
		var all []int64
		for label := range many + 1 {
			all = append(all, (label*7+3)%16)
		}
		s := newSched(t, all).Sched
		for _, label := range all {
			s = addedTask(t, s, task(label, label+1, 99)).Sched
		}
		for i, ran := range ranTurns(t, s, 200) {
			want := task(all[i%len(all)], all[i%len(all)]+1, int64(99-i/len(all)))
			if want.Need < 1 {
				want = impl.Task{}
			}
			same(t, "round and round", ran, want)
		}
	}
}

// Promise 19, by hand: all that the others may do, and what one is told stays.
func TestWithTheOthersIdleAndBusyByHand(t *testing.T) {
	order := []int64{0, 1, 2, 1}
	own := []impl.Task{task(1, 5, 2), task(1, 6, 1)}
	others := [][]impl.Task{nil, {task(0, 5, 1)}, {task(2, 6, 99)}, {task(0, 5, 9), task(2, 5, 9), task(0, 6, 9), task(2, 6, 9)}, nil}
	for id := range int64(10) {
		others[4] = append(others[4], task(0, id+1, 99), task(2, id+1, 99))
	}
	for _, more := range others {
		for at := range len(more) + 1 {
			tasks := append([]impl.Task{}, more[:at]...)
			tasks = append(append(tasks, own...), more[at:]...)
			g := &stage{t: t, s: schedOf(order, 0, tasks...)}
			ran := ranTurns(t, g.s, 8)
			same(t, "of the label 1, turn by turn", []impl.Task{ran[1], ran[3], ran[5], ran[7]}, []impl.Task{task(1, 5, 2), task(1, 6, 1), task(1, 5, 1), {}})
			g.has(1, own...)
			g.adds(task(1, 6, 1), impl.ErrThere)
			for id := int64(7); id <= 24; id++ {
				g.adds(task(1, id, 1), impl.OK)
			}
			g.adds(task(1, 25, 1), impl.ErrFull)
			g.adds(task(1, 5, 1), impl.ErrThere)
		}
	}
}
