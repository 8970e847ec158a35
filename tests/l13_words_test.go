package tests

import (
	"fmt"
	"slices"
	"testing"

	"loop.example/g00740/impl"
)

// The calls of chapter 14, told once more by the document's words alone.

func turnsRightByWords(order []int64) bool {
	for _, label := range order {
		if !between(label, 0, 15) {
			return false
		}
	}
	return between(int64(len(order)), 1, 16)
}

func taskRightByWords(one impl.Task, order []int64) bool {
	return slices.Contains(order, one.Label) && between(one.Id, 1, 9999) && between(one.Need, 1, 99)
}

func schedRightByWords(s impl.Sched) bool {
	names := map[[2]int64]int{}
	for _, one := range s.Tasks {
		if !taskRightByWords(one, s.Order) {
			return false
		}
		names[[2]int64{one.Label, one.Id}]++
	}
	return turnsRightByWords(s.Order) && between(s.Now, 0, 999999) && len(s.Tasks) <= 40 && len(names) == len(s.Tasks)
}

func schedNewByWords(order []int64) impl.SchedOut {
	if len(order) > 400 {
		return impl.SchedOut{Code: impl.ErrSize}
	}
	if !turnsRightByWords(order) {
		return impl.SchedOut{Code: impl.ErrForm}
	}
	return impl.SchedOut{Sched: impl.Sched{Order: order}}
}

// many40 are how many tasks one label may have that has one place in an Order of so many: 40 divided by that, by hand.
var many40 = []int{1: 40, 2: 20, 3: 13, 4: 10, 5: 8, 6: 6, 7: 5, 8: 5, 9: 4, 10: 4, 11: 3, 12: 3, 13: 3, 14: 2, 15: 2, 16: 2}

func mayHaveByWords(order []int64, label int64) int {
	many := 0
	for _, one := range order {
		if one == label {
			many += many40[len(order)]
		}
	}
	return many
}

func tasksByWords(tasks []impl.Task, label int64) []impl.Task {
	return slices.DeleteFunc(slices.Clone(tasks), func(one impl.Task) bool { return one.Label != label })
}

func schedAddByWords(s impl.Sched, label int64, id int64, need int64) impl.SchedOut {
	one := impl.Task{Label: label, Id: id, Need: need}
	if !schedRightByWords(s) || !taskRightByWords(one, s.Order) {
		return impl.SchedOut{Code: impl.ErrForm}
	}
	own := tasksByWords(s.Tasks, label)
	for _, other := range own {
		if other.Id == id {
			return impl.SchedOut{Code: impl.ErrThere}
		}
	}
	if len(own) >= mayHaveByWords(s.Order, label) {
		return impl.SchedOut{Code: impl.ErrFull}
	}
	next := copySched(s)
	next.Tasks = append(next.Tasks, one)
	return impl.SchedOut{Sched: next}
}

func schedTickByWords(s impl.Sched) impl.SchedOut {
	if !schedRightByWords(s) || s.Now == 999999 {
		return impl.SchedOut{Code: impl.ErrForm}
	}
	out := impl.SchedOut{Sched: copySched(s)}
	label := s.Order[int(s.Now)%len(s.Order)]
	out.Sched.Now++
	for i, one := range s.Tasks {
		if one.Label != label {
			continue
		}
		out.Ran = one
		out.Sched.Tasks = append(slices.Clone(s.Tasks[:i]), s.Tasks[i+1:]...)
		if one.Need > 1 {
			out.Sched.Tasks = append(out.Sched.Tasks, impl.Task{Label: one.Label, Id: one.Id, Need: one.Need - 1})
		}
		break
	}
	return out
}

func schedRunByWords(s impl.Sched, many int64) []impl.Task {
	var out []impl.Task
	if !between(many, 1, 200) {
		return out
	}
	for ; many > 0; many-- {
		one := schedTickByWords(s)
		if one.Code != impl.OK {
			break
		}
		s = one.Sched
		out = append(out, one.Ran)
	}
	return out
}

func tasksOfByWords(s impl.Sched, label int64) []impl.Task {
	if !schedRightByWords(s) || !between(label, 0, 15) {
		return nil
	}
	return tasksByWords(s.Tasks, label)
}

func copySched(s impl.Sched) impl.Sched {
	return impl.Sched{Order: slices.Clone(s.Order), Now: s.Now, Tasks: slices.Clone(s.Tasks)}
}

// task is one of a label, by its Id and Need.
func task(label int64, id int64, need int64) impl.Task {
	return impl.Task{Label: label, Id: id, Need: need}
}

// schedOf is a schedule made by hand.
func schedOf(order []int64, now int64, tasks ...impl.Task) impl.Sched {
	return impl.Sched{Order: order, Now: now, Tasks: tasks}
}

// The calls of this layer, each held against the document's words.

func heldSched(t *testing.T, what string, s impl.Sched, call func() impl.SchedOut, want impl.SchedOut) impl.SchedOut {
	t.Helper()
	before := copySched(s)
	got := call()
	alike(t, what, got, want)
	same(t, what+": handed in, not changed", equal(s, before), true)
	same(t, what+": new memory", newMemory(got, s), true)
	if got.Code != impl.OK {
		alike(t, what+": refused, all else is zero", got, impl.SchedOut{Code: got.Code})
	}
	return got
}

func newSched(t *testing.T, order []int64) impl.SchedOut {
	t.Helper()
	return heldSched(t, fmt.Sprint("new ", order), schedOf(order, 0), func() impl.SchedOut { return impl.SchedNew(order) }, schedNewByWords(order))
}

func addedTask(t *testing.T, s impl.Sched, one impl.Task) impl.SchedOut {
	t.Helper()
	call := func() impl.SchedOut { return impl.SchedAdd(s, one.Label, one.Id, one.Need) }
	got := heldSched(t, fmt.Sprintf("%+v: add %+v", s, one), s, call, schedAddByWords(s, one.Label, one.Id, one.Need))
	same(t, "nothing runs when one is added", got.Ran, impl.Task{})
	return got
}

func ticked(t *testing.T, s impl.Sched) impl.SchedOut {
	t.Helper()
	got := heldSched(t, fmt.Sprintf("%+v: tick", s), s, func() impl.SchedOut { return impl.SchedTick(s) }, schedTickByWords(s))
	if got.Code == impl.OK {
		same(t, "right behind a tick", impl.SchedRight(got.Sched), true)
	}
	return got
}

func heldTasks(t *testing.T, what string, s impl.Sched, call func() []impl.Task, want []impl.Task) []impl.Task {
	t.Helper()
	before := copySched(s)
	got := call()
	alike(t, what, got, want)
	same(t, what+": handed in, not changed", equal(s, before), true)
	same(t, what+": new memory", newMemory(got, s), true)
	return got
}

func ranTurns(t *testing.T, s impl.Sched, many int64) []impl.Task {
	t.Helper()
	call := func() []impl.Task { return impl.SchedRun(s, many) }
	return heldTasks(t, fmt.Sprintf("%+v: run %d", s, many), s, call, schedRunByWords(s, many))
}

func tasksTold(t *testing.T, s impl.Sched, label int64) []impl.Task {
	t.Helper()
	call := func() []impl.Task { return impl.TasksOf(s, label) }
	return heldTasks(t, fmt.Sprintf("%+v: of %d", s, label), s, call, tasksOfByWords(s, label))
}

// askedSched asks all of one schedule, right or not.
func askedSched(t *testing.T, s impl.Sched, right bool) {
	t.Helper()
	before := copySched(s)
	same(t, fmt.Sprintf("%+v is right", s), impl.SchedRight(s), right)
	same(t, fmt.Sprintf("%+v is right by the document", s), schedRightByWords(s), right)
	same(t, "handed in, not changed", equal(s, before), true)
	ticked(t, s)
	for label := int64(-1); label <= 16; label++ {
		tasksTold(t, s, label)
		addedTask(t, s, task(label, 77, 5))
	}
	for _, many := range []int64{-1, 0, 1, 7, 200, 201} {
		ranTurns(t, s, many)
	}
	if right {
		return
	}
	same(t, "no tick", impl.SchedTick(s).Code, int64(impl.ErrForm))
	same(t, "no run", len(impl.SchedRun(s, 5)), 0)
	for label := range int64(16) {
		same(t, "nothing is added", impl.SchedAdd(s, label, 77, 5).Code, int64(impl.ErrForm))
		same(t, "nothing is told", len(impl.TasksOf(s, label)), 0)
	}
}
