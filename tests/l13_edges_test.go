package tests

import (
	"fmt"
	"math"
	"slices"
	"testing"

	"loop.example/g00740/impl"
)

// orderOf is an Order of so many labels, rising from 0 on.
func orderOf(many int) []int64 {
	var out []int64
	for i := range many {
		out = append(out, int64(i%16))
	}
	return out
}

// tasksUpTo are so many tasks of one label, with Ids from 1 on.
func tasksUpTo(many int, label int64) []impl.Task {
	var out []impl.Task
	for i := range many {
		out = append(out, task(label, int64(i+1), int64(1+i%99)))
	}
	return out
}

func TestOrdersAtTheirEdges(t *testing.T) {
	for many := range 20 {
		for _, order := range [][]int64{orderOf(many), slices.Repeat([]int64{0}, many), slices.Repeat([]int64{15}, many)} {
			right := between(int64(many), 1, 16)
			same(t, fmt.Sprint(order), newSched(t, order).Code == impl.OK, right)
			askedSched(t, schedOf(order, 0), right)
			for at := range order {
				for _, label := range append([]int64{-1, 0, 15, 16}, noLabels...) {
					other := slices.Clone(order)
					other[at] = label
					same(t, fmt.Sprint(other), newSched(t, other).Code == impl.OK, right && between(label, 0, 15))
					same(t, fmt.Sprint(other), impl.SchedRight(schedOf(other, 0)), right && between(label, 0, 15))
				}
			}
		}
	}
	askedSched(t, schedOf([]int64{16}, 0), false)
	askedSched(t, schedOf([]int64{0, -1}, 0), false)
	askedSched(t, schedOf([]int64{math.MinInt64, 0}, 0), false)
}

func TestOrdersThatAreLong(t *testing.T) {
	for many, code := range map[int]int64{17: impl.ErrForm, 399: impl.ErrForm, 400: impl.ErrForm, 401: impl.ErrSize, 402: impl.ErrSize, 5000: impl.ErrSize} {
		for _, label := range []int64{0, 15, 16, -1} {
			order := slices.Repeat([]int64{label}, many)
			same(t, fmt.Sprint(many), newSched(t, order).Code, code)
			same(t, "a field of something", impl.SchedAdd(schedOf(order, 0), 0, 1, 1).Code, int64(impl.ErrForm))
			same(t, "a field of something", impl.SchedTick(schedOf(order, 0)).Code, int64(impl.ErrForm))
		}
	}
	askedSched(t, schedOf(slices.Repeat([]int64{0}, 401), 0), false)
	askedSched(t, schedOf([]int64{0}, 0, tasksUpTo(401, 0)...), false)
}

func TestNowAtItsEdges(t *testing.T) {
	for _, order := range [][]int64{{0}, {3, 0}, orderOf(16)} {
		for _, tasks := range [][]impl.Task{nil, tasksUpTo(3, 0), tasksUpTo(40, 0)} {
			for _, now := range []int64{0, 1, 2, 500000, 999997, 999998, 999999} {
				s := schedOf(order, now, tasks...)
				askedSched(t, s, true)
				same(t, fmt.Sprint("a tick at ", now), impl.SchedTick(s).Code == impl.OK, now < 999999)
			}
			for _, now := range append([]int64{-1, -2, -999999, 1000000, 1000001}, wideNumbers...) {
				askedSched(t, schedOf(order, now, tasks...), between(now, 0, 999999))
			}
		}
	}
}

func TestTheLastTicks(t *testing.T) {
	g := &stage{t: t, s: schedOf([]int64{2, 4}, 999997, task(2, 1, 3), task(4, 1, 3))}
	g.will(task(4, 1, 3), task(2, 1, 3))
	g.runs(task(4, 1, 3), task(2, 1, 3), task(4, 1, 2))
	g.runs(task(2, 1, 3), task(4, 1, 2), task(2, 1, 2))
	same(t, "the last Now", g.s.Now, int64(999999))
	same(t, "right still", impl.SchedRight(g.s), true)
	alike(t, "no tick any more", ticked(t, g.s), impl.SchedOut{Code: impl.ErrForm})
	same(t, "no run any more", len(ranTurns(t, g.s, 200)), 0)
	g.has(2, task(2, 1, 2))
	g.adds(task(2, 2, 1), impl.OK)
	g.adds(task(4, 1, 1), impl.ErrThere)
	for _, left := range []int64{0, 1, 2, 7, 199, 200, 201} {
		for _, tasks := range [][]impl.Task{nil, {task(2, 1, 99)}, {task(4, 1, 2), task(2, 1, 99), task(4, 3, 99)}} {
			s := schedOf([]int64{2, 4}, 999999-left, tasks...)
			for _, many := range []int64{1, 2, 6, 7, 8, 198, 199, 200} {
				same(t, "as many as can be", len(ranTurns(t, s, many)), int(min(left, many)))
			}
		}
	}
}

func TestTasksAtTheirEdges(t *testing.T) {
	for many := range 43 {
		askedSched(t, schedOf([]int64{7}, 3, tasksUpTo(many, 7)...), many <= 40)
		askedSched(t, schedOf([]int64{7, 1}, 3, tasksUpTo(many, 1)...), many <= 40)
	}
	for many := range 4 {
		for at := range many + 1 {
			tasks := func(one impl.Task) impl.Sched {
				return schedOf([]int64{7, 1, 0}, 3, slices.Insert(tasksUpTo(many, 7), at, one)...)
			}
			askedSched(t, tasks(task(1, 77, 50)), true)
			askedSched(t, tasks(task(0, 77, 50)), true)
			for _, label := range append([]int64{2, 3, 6, 8, 15}, noLabels...) {
				askedSched(t, tasks(task(label, 77, 50)), false)
			}
			for _, id := range append([]int64{-1, 0, 1, 2, 9998, 9999, 10000, 10001}, wideNumbers...) {
				askedSched(t, tasks(task(1, id, 50)), between(id, 1, 9999))
				askedSched(t, tasks(task(7, id, 50)), between(id, int64(many+1), 9999))
			}
			for _, need := range append([]int64{-1, 0, 1, 2, 98, 99, 100, 101}, wideNumbers...) {
				askedSched(t, tasks(task(1, 77, need)), between(need, 1, 99))
			}
			askedSched(t, tasks(impl.Task{}), false)
		}
	}
}

// Of one label no two have one Id; two labels may have the same one.
func TestIdsOfOneLabelAndOfTwo(t *testing.T) {
	for _, order := range [][]int64{{0, 1}, {1, 0, 0}, {5, 1, 0, 2}} {
		for at := range 5 {
			one := []impl.Task{task(0, 4, 1), task(1, 2, 1), task(0, 3, 7), task(1, 9, 2)}
			askedSched(t, schedOf(order, 0, slices.Insert(one, at, task(1, 4, 1))...), true)
			askedSched(t, schedOf(order, 0, slices.Insert(one, at, task(1, 3, 7))...), true)
			askedSched(t, schedOf(order, 0, slices.Insert(one, at, task(0, 4, 1))...), false)
			askedSched(t, schedOf(order, 0, slices.Insert(one, at, task(0, 4, 2))...), false)
			askedSched(t, schedOf(order, 0, slices.Insert(one, at, task(1, 9, 99))...), false)
		}
	}
	for _, last := range []impl.Task{task(0, 1, 9), task(0, 20, 9), task(0, 39, 9)} {
		askedSched(t, schedOf([]int64{0}, 0, append(tasksUpTo(39, 0), last)...), false)
	}
	askedSched(t, schedOf([]int64{0, 1}, 0, append(tasksUpTo(20, 0), tasksUpTo(20, 1)...)...), true)
	askedSched(t, schedOf([]int64{0, 1}, 0, append(tasksUpTo(20, 0), tasksUpTo(21, 1)...)...), false)
}

func TestAddedTasksAtTheirEdges(t *testing.T) {
	s := schedOf([]int64{4, 0, 9}, 5, task(0, 3, 1), task(4, 3, 9))
	for label := int64(-1); label <= 16; label++ {
		code := int64(impl.ErrForm)
		if label == 0 || label == 4 || label == 9 {
			code = impl.OK
		}
		same(t, "a label", addedTask(t, s, task(label, 1, 1)).Code, code)
	}
	for _, label := range noLabels {
		same(t, "no label", addedTask(t, s, task(label, 1, 1)).Code, int64(impl.ErrForm))
	}
	numbers := append([]int64{-1, 0, 1, 2, 3, 98, 99, 100, 101, 9998, 9999, 10000}, wideNumbers...)
	for _, id := range numbers {
		for _, need := range numbers {
			for _, label := range []int64{0, 4, 9, 1, 16} {
				code := int64(impl.ErrForm)
				if between(id, 1, 9999) && between(need, 1, 99) && (label == 0 || label == 4 || label == 9) {
					code = impl.OK
					if id == 3 && label != 9 {
						code = impl.ErrThere
					}
				}
				same(t, fmt.Sprint(label, " ", id, " ", need), addedTask(t, s, task(label, id, need)).Code, code)
			}
		}
	}
}

// fillUp puts as many tasks of a label as are taken, and tells how many that were.
func fillUp(t *testing.T, s *impl.Sched, label int64) int {
	t.Helper()
	many := 0
	for ; many < 60; many++ {
		got := addedTask(t, *s, task(label, int64(many+1), 2))
		if got.Code != impl.OK {
			same(t, "no more", got.Code, int64(impl.ErrFull))
			break
		}
		same(t, "right with one more", impl.SchedRight(got.Sched), true)
		*s = got.Sched
	}
	return many
}

// How many of one label there may be hangs on the Order alone; the others may have had theirs ahead.
func TestHowManyThereMayBe(t *testing.T) {
	for many := 1; many <= 16; many++ {
		for times := 1; times <= many; times++ {
			order := slices.Repeat([]int64{6}, times)
			for label := int64(0); len(order) < many; label++ {
				if label%16 != 6 {
					order = slices.Insert(order, int(label)%(len(order)+1), label%16)
				}
			}
			want := many40[many] * times
			alone := newSched(t, order).Sched
			same(t, fmt.Sprint(order, " alone"), fillUp(t, &alone, 6), want)
			behind := newSched(t, order).Sched
			for label := range int64(16) {
				if label != 6 && slices.Contains(order, label) {
					fillUp(t, &behind, label)
				}
			}
			same(t, fmt.Sprint(order, " behind the others"), fillUp(t, &behind, 6), want)
			same(t, "all of them are right", impl.SchedRight(behind), true)
			alike(t, "the same tasks", tasksTold(t, alone, 6), tasksTold(t, behind, 6))
			behind = ticked(t, behind).Sched
			askedFull(t, behind, 6, want)
		}
	}
}

// askedFull asks what is told to a label that has as many tasks as it may have, and one fewer.
func askedFull(t *testing.T, s impl.Sched, label int64, want int) {
	t.Helper()
	own := tasksTold(t, s, label)
	same(t, "one task is as good as another one", len(own), want)
	same(t, "full", addedTask(t, s, task(label, 9999, 1)).Code, int64(impl.ErrFull))
	same(t, "there is named ahead of full", addedTask(t, s, own[0]).Code, int64(impl.ErrThere))
	same(t, "there is named ahead of full", addedTask(t, s, task(label, own[want-1].Id, 99)).Code, int64(impl.ErrThere))
	same(t, "no task is named ahead of there", addedTask(t, s, task(label, own[0].Id, 100)).Code, int64(impl.ErrForm))
	same(t, "no task is named ahead of full", addedTask(t, s, task(label, 10000, 1)).Code, int64(impl.ErrForm))
	fewer := copySched(s)
	fewer.Tasks = slices.DeleteFunc(fewer.Tasks, func(one impl.Task) bool { return one == own[0] })
	same(t, "one fewer", addedTask(t, fewer, task(label, 9999, 1)).Code, int64(impl.OK))
	same(t, "one fewer, by that name again", addedTask(t, fewer, own[0]).Code, int64(impl.OK))
	same(t, "one fewer, by a name that is there", addedTask(t, fewer, own[want-1]).Code, int64(impl.ErrThere))
}

// A schedule made by hand may have more of one label than it may add; the others are told what they would be told without.
func TestMoreThanMayBeAdded(t *testing.T) {
	order := []int64{0, 1}
	for _, many := range []int{19, 20, 21, 39, 40} {
		s := schedOf(order, 0, tasksUpTo(many, 0)...)
		full := many >= 20
		same(t, "of its own", addedTask(t, s, task(0, 99, 1)).Code == impl.ErrFull, full)
		same(t, "that is there", addedTask(t, s, task(0, 1, 1)).Code, int64(impl.ErrThere))
		got := addedTask(t, s, task(1, 99, 1))
		alike(t, "of the other one", got.Sched.Tasks, append(tasksUpTo(many, 0), task(1, 99, 1)))
		same(t, "it is right, if there is room", impl.SchedRight(got.Sched), many < 40)
	}
}

func TestHowManyTicksMayBeAsked(t *testing.T) {
	for _, s := range []impl.Sched{schedOf([]int64{0}, 0), schedOf([]int64{0}, 0, task(0, 1, 99)), schedOf(orderOf(16), 77, tasksUpTo(40, 3)...)} {
		for many := int64(-2); many <= 203; many++ {
			want := 0
			if between(many, 1, 200) {
				want = int(many)
			}
			same(t, fmt.Sprint(many), len(ranTurns(t, s, many)), want)
		}
		for _, many := range append([]int64{-200, 256 + 5, 1<<32 + 5}, wideNumbers...) {
			same(t, fmt.Sprint(many), len(ranTurns(t, s, many)), 0)
		}
	}
}

func TestTasksOfWhomThereAreNone(t *testing.T) {
	s := schedOf([]int64{1, 15, 0}, 8, task(15, 2, 3), task(1, 2, 3), task(15, 1, 9))
	for _, label := range append([]int64{-1, 0, 2, 14, 16}, noLabels...) {
		same(t, fmt.Sprint("of ", label), len(tasksTold(t, s, label)), 0)
	}
	alike(t, "of 15", tasksTold(t, s, 15), []impl.Task{task(15, 2, 3), task(15, 1, 9)})
	alike(t, "of 1", tasksTold(t, s, 1), []impl.Task{task(1, 2, 3)})
}

// Whatever is handed in is answered: one number of a schedule is turned, or two, or a list has one more or fewer.
func TestSchedulesNearToARightOne(t *testing.T) {
	t.Parallel()
	whole := schedOf([]int64{3, 0, 3, 15}, 41, task(0, 1, 2), task(3, 1, 99), task(15, 9999, 1), task(3, 7, 50), task(0, 2, 1))
	right, wrong := 0, 0
	ask := func(s impl.Sched) {
		askedSched(t, s, schedRightByWords(s))
		if schedRightByWords(s) {
			right++
		} else {
			wrong++
		}
	}
	numbers := append([]int64{-1, 0, 1, 2, 3, 7, 15, 16, 41, 99, 100, 9999, 10000, 999999, 1000000}, wideNumbers...)
	place := func(s *impl.Sched, at int) *int64 {
		if at < 4 {
			return &s.Order[at]
		}
		if at == 4 {
			return &s.Now
		}
		one := &s.Tasks[(at-5)/3]
		return []*int64{&one.Label, &one.Id, &one.Need}[(at-5)%3]
	}
	for at := range 20 {
		for _, n := range numbers {
			s := copySched(whole)
			*place(&s, at) = n
			ask(s)
		}
	}
	d := dice(512927377)
	for range 600 {
		s := copySched(whole)
		for range 2 {
			*place(&s, d.draw(20)) = numbers[d.draw(len(numbers))]
		}
		ask(s)
	}
	for i := range whole.Order {
		s := copySched(whole)
		s.Order = slices.Delete(s.Order, i, i+1)
		ask(s)
	}
	for i := range whole.Tasks {
		s := copySched(whole)
		s.Tasks = append(slices.Delete(s.Tasks, i, i+1), whole.Tasks[:d.draw(3)]...)
		ask(s)
	}
	ask(impl.Sched{})
	same(t, "some are right", right > 80, true)
	same(t, "most are not", wrong > 300, true)
}
