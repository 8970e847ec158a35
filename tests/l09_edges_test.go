package tests

import (
	"fmt"
	"math"
	"slices"
	"testing"

	"loop.example/g00740/impl"
)

func TestSeedsAtTheirEdges(t *testing.T) {
	for _, seed := range []int64{0, 1, 2, 4711, 65534, 65535} {
		out := impl.MachineNew(seed)
		alike(t, "a machine", out, machineNewByWords(seed))
		same(t, "right", impl.MachineRight(out.Machine), true)
		run := ran(t, seed, []impl.Call{{Word: impl.WdRoom}})
		same(t, "a run", run.Replies[0].N, int64(32))
		alike(t, "no call", ran(t, seed, nil), impl.RunOut{Machine: out.Machine})
	}
	for _, seed := range noKeys {
		alike(t, "a machine", impl.MachineNew(seed), impl.CallOut{Code: impl.ErrForm})
		alike(t, "no call", ran(t, seed, nil), impl.RunOut{Code: impl.ErrForm})
		alike(t, "a call", ran(t, seed, []impl.Call{{Word: impl.WdRoom}}), impl.RunOut{Code: impl.ErrForm})
	}
}

// askedCall asks whether a call is right, and whether CallDo and RunCalls refuse it just if it is not.
func askedCall(t *testing.T, m impl.Machine, c impl.Call, right bool) {
	t.Helper()
	what := fmt.Sprintf("%+v", c)
	same(t, what, impl.CallRight(c), right)
	same(t, what+": by the document's words", callRightByWords(c), right)
	out := called(t, m, c)
	same(t, what+": done", out.Code == impl.OK, right)
	fine := impl.Call{Word: impl.WdRoom}
	for _, l := range [][]impl.Call{{c}, {fine, c}, {c, fine}} {
		run := impl.RunCalls(3, l)
		same(t, what+": run", run.Code == impl.OK, right)
		if !right {
			alike(t, what+": run, refused", run, impl.RunOut{Code: impl.ErrForm})
		}
	}
}

func TestCallsAtTheirEdges(t *testing.T) {
	m := machineOf(fastHall(t).k)
	fine := impl.Call{Who: 1, Word: impl.WdInfo, A: impl.Ref{N: 2}, B: impl.Ref{Label: 1, N: 1}, X: 1, Y: 1, Z: 1}
	for _, word := range []int64{impl.WdMake, impl.WdInfo, impl.WdLoad, impl.WdStore} {
		fine.Word = word
		askedCall(t, m, fine, true)
		for what, one := range map[string]struct {
			set func(c *impl.Call, n int64)
			max int64
		}{
			"Who":       {func(c *impl.Call, n int64) { c.Who = n }, 15},
			"A's Label": {func(c *impl.Call, n int64) { c.A.Label = n }, 15},
			"B's Label": {func(c *impl.Call, n int64) { c.B.Label = n }, 15},
			"A's N":     {func(c *impl.Call, n int64) { c.A.N = n }, 999},
			"B's N":     {func(c *impl.Call, n int64) { c.B.N = n }, 999},
			"X":         {func(c *impl.Call, n int64) { c.X = n }, 999999},
			"Y":         {func(c *impl.Call, n int64) { c.Y = n }, 999999},
			"Z":         {func(c *impl.Call, n int64) { c.Z = n }, 999999},
		} {
			for _, n := range []int64{0, 1, one.max - 1, one.max} {
				c := fine
				one.set(&c, n)
				askedCall(t, m, c, true)
			}
			for _, n := range append([]int64{-1, -2, one.max + 1, one.max + 2, -one.max}, wideNumbers...) {
				c := fine
				one.set(&c, n)
				if n == 65537 && one.max > n { // X, Y and Z may be that
					askedCall(t, m, c, true)
					continue
				}
				askedCall(t, m, c, false)
			}
			if t.Failed() {
				t.Fatal(what)
			}
		}
	}
	for word := int64(-20); word <= 300; word++ {
		fine.Word = word
		if between(word, -2, 14) || word%17 == 0 {
			askedCall(t, m, fine, between(word, 1, 12))
		}
		same(t, "a word", impl.CallRight(fine), between(word, 1, 12))
	}
	for _, word := range append([]int64{256 + 1, 1<<32 + 1, 13}, wideNumbers...) {
		fine.Word = word
		askedCall(t, m, fine, false)
	}
	same(t, "the zero call", impl.CallRight(impl.Call{}), false)
}

// rooms are that many calls that are right.
func rooms(many int) []impl.Call {
	return slices.Repeat([]impl.Call{{Word: impl.WdRoom}}, many)
}

func TestRunsAtTheirEdges(t *testing.T) {
	for _, many := range []int{0, 1, 2, 59, 60} {
		run := ran(t, 3, rooms(many))
		same(t, "as many replies", len(run.Replies), many)
		alike(t, "as it was", run.Machine, impl.MachineNew(3).Machine)
		for i := range many {
			wrong := rooms(many)
			wrong[i].Word = 13
			alike(t, "one is wrong", ran(t, 3, wrong), impl.RunOut{Code: impl.ErrForm})
		}
	}
	for _, many := range []int{61, 62, 100, 399, 400} {
		alike(t, "too many", ran(t, 3, rooms(many)), impl.RunOut{Code: impl.ErrForm})
	}
	for _, many := range []int{401, 402, 1000, 100000} {
		for _, seed := range []int64{3, -1, 65536} {
			alike(t, "far too many, ahead of all else", impl.RunCalls(seed, rooms(many)), impl.RunOut{Code: impl.ErrSize})
			alike(t, "far too many, and none of them right", impl.RunCalls(seed, make([]impl.Call, many)), impl.RunOut{Code: impl.ErrSize})
		}
	}
}

// toldTown is a machine of a town, in which all is told.
func toldTown(t *testing.T) (town, impl.Machine) {
	t.Helper()
	w := newTown(t)
	return w, machineOf(w.k)
}

// refusedMachine holds all calls of a machine that is not right against what they must answer.
func refusedMachine(t *testing.T, what string, m impl.Machine) {
	t.Helper()
	before := fmt.Sprintf("%+v", m)
	same(t, what+": right by the document's words", machineRightByWords(m), false)
	same(t, what+": right", impl.MachineRight(m), false)
	for who := int64(-1); who <= 16; who++ {
		for _, ref := range []impl.Ref{{}, {Label: 1}, {Label: 15, N: 999}, {Label: 16}, {N: -1}} {
			same(t, what+": named", impl.Named(m, who, ref), impl.Handle{})
		}
	}
	for word := int64(0); word <= 13; word++ {
		for _, who := range []int64{-1, 0, 15, 16} {
			c := impl.Call{Who: who, Word: word, X: 1}
			alike(t, what+": done", impl.CallDo(m, c), impl.CallOut{Code: impl.ErrForm})
		}
	}
	same(t, what+": not changed", fmt.Sprintf("%+v", m), before)
}

// rightMachine asks for one that is right still.
func rightMachine(t *testing.T, what string, m impl.Machine) {
	t.Helper()
	same(t, what+": right by the document's words", machineRightByWords(m), true)
	same(t, what, impl.MachineRight(m), true)
	same(t, what+": done", called(t, m, impl.Call{Who: 15, Word: impl.WdInfo}).Code, int64(impl.OK))
}

func TestToldAtItsEdges(t *testing.T) {
	_, m := toldTown(t)
	rightMachine(t, "all told", m)
	refusedMachine(t, "none at all", impl.Machine{})
	refusedMachine(t, "nothing told", impl.Machine{Kernel: m.Kernel})
	refusedMachine(t, "no kernel", impl.Machine{Told: m.Told})
	for many := range 16 {
		less := copyMachine(m)
		less.Told = less.Told[:many]
		refusedMachine(t, fmt.Sprint(many, " lists"), less)
	}
	for _, many := range []int{1, 2, 16, 1000} {
		more := copyMachine(m)
		more.Told = append(more.Told, make([][]impl.Handle, many)...)
		refusedMachine(t, fmt.Sprint(16+many, " lists"), more)
	}
	for label := range 16 {
		long := copyMachine(m)
		long.Told[label] = make([]impl.Handle, 400)
		rightMachine(t, "400 handles", long)
		for _, many := range []int{401, 402, 1000} {
			long.Told[label] = make([]impl.Handle, many)
			refusedMachine(t, fmt.Sprint(many, " handles"), long)
		}
		empty := copyMachine(m)
		empty.Told[label] = nil
		if label == 0 {
			refusedMachine(t, "of 0 nothing", empty)
			empty.Told[0] = []impl.Handle{}
			refusedMachine(t, "of 0 an empty list", empty)
		} else {
			rightMachine(t, "of another one nothing", empty)
		}
	}
	all := copyMachine(m)
	for label := range all.Told {
		all.Told[label] = make([]impl.Handle, 400)
	}
	rightMachine(t, "400 handles each", all)
	for _, h := range []impl.Handle{{}, {Gen: impl.MaxGen}, {By: -5, Id: math.MinInt64, Gen: math.MaxInt64}, {By: 15}, m.Told[1][0], m.Told[0][2]} {
		other := copyMachine(m)
		other.Told[0][0] = h
		rightMachine(t, "any handle at its beginning", other)
		other.Told[0] = []impl.Handle{h}
		rightMachine(t, "any handle alone", other)
	}
}

// The 400 that may be told are all named, and a call that puts none behind them leaves the machine right; of Make the Handle
// is behind them by the document's words, whatever is right then.
func TestAFullTold(t *testing.T) {
	w, m := toldTown(t)
	for label := range m.Told {
		for len(m.Told[label]) < 400 {
			m.Told[label] = append(m.Told[label], impl.Handle{By: int64(label), Id: int64(len(m.Told[label])), Gen: 3})
		}
	}
	for label := range int64(16) {
		for _, n := range []int64{0, 1, 398, 399} {
			same(t, "named", impl.Named(m, 15, impl.Ref{Label: label, N: n}), m.Told[label][n])
		}
		for _, n := range []int64{400, 401, 998, 999, 1000} {
			same(t, "none", impl.Named(m, 15, impl.Ref{Label: label, N: n}), impl.Handle{Gen: 3})
		}
	}
	for word := int64(2); word <= 12; word++ {
		same(t, "done", called(t, m, impl.Call{Who: 0, Word: word, A: refOf(m, w.plot), X: 1, Y: 1}).Code, int64(impl.OK))
	}
	c := impl.Call{Who: 0, Word: impl.WdMake, A: refOf(m, w.shed), X: impl.KdSeg, Z: 1}
	out := impl.CallDo(m, c)
	alike(t, "a Make behind them", out, callByWords(m, c))
	same(t, "its Handle is the last one", out.Machine.Told[0][400], out.Reply.Handle)
	refused := c
	refused.X = 4
	same(t, "a Make that is refused", called(t, m, refused).Reply.Code, int64(impl.ErrForm))
	m.Told[0] = m.Told[0][:399]
	out = called(t, m, c)
	same(t, "the last one that fits", []any{len(out.Machine.Told[0]), impl.MachineRight(out.Machine)}, []any{400, true})
}

func TestNamedByHand(t *testing.T) {
	never := impl.Handle{By: 0, Id: 0, Gen: 3}
	same(t, "which is never one", never == impl.Handle{}, false)
	w, m := toldTown(t)
	for _, one := range []struct {
		what string
		who  int64
		ref  impl.Ref
		want impl.Handle
	}{
		{"the root", 0, impl.Ref{}, w.root},
		{"the root, for another", 12, impl.Ref{}, w.root},
		{"the next one", 0, impl.Ref{N: 1}, w.yard},
		{"the last one", 0, impl.Ref{N: 4}, w.shed},
		{"one beyond", 0, impl.Ref{N: 5}, never},
		{"far beyond", 0, impl.Ref{N: 999}, never},
		{"what flows to who", 1, impl.Ref{Label: 1}, w.well},
		{"what flows to who", 5, impl.Ref{Label: 1, N: 3}, w.safe},
		{"what flows to who, one beyond", 5, impl.Ref{Label: 1, N: 4}, never},
		{"what does not", 0, impl.Ref{Label: 1}, never},
		{"what does not", 2, impl.Ref{Label: 1}, never},
		{"what does not, though it has a bit of it", 1, impl.Ref{Label: 3}, never},
		{"what does", 3, impl.Ref{Label: 3, N: 1}, w.nest},
		{"what does", 15, impl.Ref{Label: 3, N: 1}, w.nest},
		{"of whom nothing was told", 15, impl.Ref{Label: 7}, never},
		{"N below 0", 15, impl.Ref{N: -1}, never},
		{"no label", 15, impl.Ref{Label: 16}, never},
		{"no label", 15, impl.Ref{Label: -1}, never},
		{"who is no label", 16, impl.Ref{}, impl.Handle{}},
		{"who is no label", -1, impl.Ref{}, impl.Handle{}},
	} {
		same(t, one.what, impl.Named(m, one.who, one.ref), one.want)
	}
	for _, who := range noLabels {
		for label := range int64(17) {
			same(t, "who is no label", impl.Named(m, who, impl.Ref{Label: label}), impl.Handle{})
		}
	}
	wrong := copyMachine(m)
	wrong.Kernel.Words[9] = 65536
	same(t, "a machine that is not right", impl.Named(wrong, 0, impl.Ref{}), impl.Handle{})
	same(t, "nor for what is none", impl.Named(wrong, 0, impl.Ref{N: 7}), impl.Handle{})
}

func TestNamedByTheDocument(t *testing.T) {
	_, m := toldTown(t)
	m.Told[6] = []impl.Handle{{By: 99, Id: -4, Gen: 17}, {}, {Gen: 3}}
	before := fmt.Sprintf("%+v", m)
	for who := int64(-1); who <= 16; who++ {
		for label := int64(-2); label <= 17; label++ {
			for n := int64(-1); n <= 6; n++ {
				ref := impl.Ref{Label: label, N: n}
				same(t, "named", impl.Named(m, who, ref), namedByWords(m, who, ref))
			}
		}
		for _, n := range append([]int64{399, 400, 999, 1000}, wideNumbers...) {
			for _, ref := range []impl.Ref{{N: n}, {Label: n}, {Label: n, N: n}, {Label: 6, N: n}} {
				same(t, "named", impl.Named(m, who, ref), namedByWords(m, who, ref))
			}
		}
	}
	same(t, "not changed", fmt.Sprintf("%+v", m), before)
}

// Of each machine whose kernel differs from a right one in one thing the calls are refused just if it is not right.
func TestMachinesOfEachMutant(t *testing.T) {
	t.Parallel()
	w, m := toldTown(t)
	told := m.Told
	d := dice(32452843)
	many := map[bool]int{}
	eachMutant(w.k, func(k impl.Kernel) {
		right := kernelRightByWords(k)
		many[right]++
		m := impl.Machine{Kernel: k, Told: told}
		if impl.MachineRight(m) != right {
			t.Fatalf("right of %+v: got %v", k, !right)
		}
		want := impl.Handle{}
		if right {
			want = told[1][2]
		}
		if got := impl.Named(m, 1, impl.Ref{Label: 1, N: 2}); got != want {
			t.Fatalf("named in %+v: got %v", k, got)
		}
		by := int64(d.draw(2))
		c := impl.Call{Who: by, Word: int64(1 + d.draw(12)), A: impl.Ref{Label: by, N: int64(d.draw(5))}, X: int64(d.draw(4)), Y: int64(d.draw(4)), Z: int64(d.draw(2))}
		if many[right]%3 == 0 {
			called(t, m, c)
		}
		if out := impl.CallDo(m, c); (out.Code == impl.ErrForm) == right {
			t.Fatalf("%+v in %+v: code %d", c, k, out.Code)
		}
	})
	if many[true] < 300 || many[false] < 300 {
		t.Errorf("only %v mutants", many)
	}
}

// Of two faults the first one is told: what is wrong with the machine or the call is told by CallDo, what is wrong with what
// is asked for in the reply.
func TestTheOrderOfFaultsOfCalls(t *testing.T) {
	w, m := toldTown(t)
	wrong := copyMachine(m)
	wrong.Told[15] = make([]impl.Handle, 401)
	plot, yard := refOf(m, w.plot), refOf(m, w.yard)
	for _, c := range []impl.Call{{}, {Word: 13}, {Word: impl.WdDrop}, {Word: impl.WdInfo, A: impl.Ref{N: 999}}, {Who: 16, Word: 1}, {Word: impl.WdPeek, X: -1}} {
		alike(t, "a wrong machine", impl.CallDo(wrong, c), impl.CallOut{Code: impl.ErrForm})
	}
	for what, one := range map[string]struct {
		c    impl.Call
		code int64
	}{
		"make: form ahead of none":       {impl.Call{Who: 2, Word: impl.WdMake, A: plot, X: 0}, impl.ErrForm},
		"make: none ahead of full":       {impl.Call{Who: 2, Word: impl.WdMake, A: yard, X: 2, Y: 2, Z: 5}, impl.ErrNone},
		"make: full":                     {impl.Call{Who: 1, Word: impl.WdMake, A: yard, X: 2, Y: 1, Z: 5}, impl.ErrFull},
		"drop: the root":                 {impl.Call{Word: impl.WdDrop}, impl.ErrNone},
		"drop: not by who":               {impl.Call{Who: 1, Word: impl.WdDrop, A: yard}, impl.ErrNone},
		"kids: no box":                   {impl.Call{Word: impl.WdKids, A: plot}, impl.ErrNone},
		"room: no box":                   {impl.Call{Word: impl.WdRoom, A: plot}, impl.ErrNone},
		"peek: none ahead of range":      {impl.Call{Word: impl.WdPeek, A: yard, X: 999999}, impl.ErrNone},
		"peek: range":                    {impl.Call{Word: impl.WdPeek, A: plot, X: 8}, impl.ErrRange},
		"poke: form ahead of none":       {impl.Call{Word: impl.WdPoke, A: yard, X: 999999, Y: 65536}, impl.ErrForm},
		"poke: none ahead of range":      {impl.Call{Who: 1, Word: impl.WdPoke, A: plot, X: 8}, impl.ErrNone},
		"poke: range":                    {impl.Call{Word: impl.WdPoke, A: plot, X: 8}, impl.ErrRange},
		"fill: form ahead of none":       {impl.Call{Word: impl.WdFill, A: yard, Y: 65536}, impl.ErrForm},
		"fill: none":                     {impl.Call{Word: impl.WdFill, A: yard, Y: 65535}, impl.ErrNone},
		"map: form ahead of none, va":    {impl.Call{Word: impl.WdMap, A: yard, X: 8}, impl.ErrForm},
		"map: form ahead of none, page":  {impl.Call{Word: impl.WdMap, A: yard, Y: 32}, impl.ErrForm},
		"map: none":                      {impl.Call{Word: impl.WdMap, A: yard, X: 7, Y: 31}, impl.ErrNone},
		"unmap: form ahead of none":      {impl.Call{Word: impl.WdUnmap, A: yard, X: 8}, impl.ErrForm},
		"unmap: none":                    {impl.Call{Word: impl.WdUnmap, A: yard, X: 7}, impl.ErrNone},
		"load: form ahead of none, va":   {impl.Call{Word: impl.WdLoad, A: yard, X: 8}, impl.ErrForm},
		"load: form ahead of none, i":    {impl.Call{Word: impl.WdLoad, A: yard, Y: 2}, impl.ErrForm},
		"load: none":                     {impl.Call{Word: impl.WdLoad, A: yard, X: 7, Y: 1}, impl.ErrNone},
		"store: form ahead of none, va":  {impl.Call{Word: impl.WdStore, A: yard, X: 8}, impl.ErrForm},
		"store: form ahead of none, i":   {impl.Call{Word: impl.WdStore, A: yard, Y: 2}, impl.ErrForm},
		"store: form ahead of none, v":   {impl.Call{Word: impl.WdStore, A: yard, Z: 65536}, impl.ErrForm},
		"store: none":                    {impl.Call{Word: impl.WdStore, A: yard, X: 7, Y: 1, Z: 65535}, impl.ErrNone},
		"form ahead of what is stale":    {impl.Call{Who: 3, Word: impl.WdStore, A: refOf(m, w.map1), X: 7, Z: 65536}, impl.ErrForm},
		"info: of what is not there":     {impl.Call{Word: impl.WdInfo, A: impl.Ref{N: 5}}, impl.ErrNone},
		"info: of what one may not hear": {impl.Call{Who: 2, Word: impl.WdInfo, A: refOf(m, w.well)}, impl.ErrNone},
	} {
		out := called(t, m, one.c)
		alike(t, what, out.Reply, impl.Reply{Code: one.code})
		alike(t, what+": as it was", out.Machine, m)
		same(t, what+": the call itself is done", out.Code, int64(impl.OK))
	}
	gone := called(t, m, impl.Call{Who: 3, Word: impl.WdStore, A: refOf(m, w.map1), X: 7})
	alike(t, "what is stale", gone.Reply, impl.Reply{Code: impl.ErrNone})
	alike(t, "what is stale goes", impl.Stale(gone.Machine.Kernel, w.map1), []int64(nil))
	same(t, "and nothing else", len(impl.Find(gone.Machine.Kernel, w.map1).Fasts), 1)
}
