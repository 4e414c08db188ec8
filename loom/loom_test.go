package loom_test

import (
	"math"
	"math/rand"
	"slices"
	"testing"

	"wayfare/api"
	"wayfare/arena"
	"wayfare/loom"
	"wayfare/thread"
)

func newArena(t *testing.T, n int) *arena.Arena {
	t.Helper()
	a, e := arena.New(n, true)
	if e != api.OK {
		t.Fatalf("New(%d) = %d", n, e)
	}
	return a
}

func newLoom(t *testing.T, a *arena.Arena, ms ...loom.Machine) *loom.Loom {
	t.Helper()
	l, e := loom.New(a, ms)
	if l == nil || e != api.OK {
		t.Fatalf("L1: New = %v, %d", l != nil, e)
	}
	return l
}

// threads are the machines that a text is.
func threads(t *testing.T, text string) []loom.Machine {
	t.Helper()
	codes, e, row, col := thread.Read(text)
	if e != api.OK {
		t.Fatalf("a text that is none: %d at %d, %d", e, row, col)
	}
	var out []loom.Machine
	for _, c := range codes {
		x, e := thread.New(c)
		if e != api.OK {
			t.Fatalf("New = %d", e)
		}
		out = append(out, x)
	}
	return out
}

// machine makes what its function makes, so many times.
type machine struct {
	left int
	make func(p *arena.Port)
	who  []int // the numbers of the ports that it was handed
}

func (m *machine) Over() bool { return m.left == 0 }

func (m *machine) Step(p *arena.Port) {
	m.left--
	m.who = append(m.who, p.Who())
	m.make(p)
}

func adder(times int) *machine {
	return &machine{left: times, make: func(p *arena.Port) { p.Add(0, 1) }}
}

func wantTurn(t *testing.T, l *loom.Loom, w int, want api.Turn) {
	t.Helper()
	if got := l.Pick(w); got != want {
		t.Errorf("L2: Pick(%d) = %v, want %v", w, got, want)
	}
}

func wantCell(t *testing.T, a *arena.Arena, cell int, want uint64) {
	t.Helper()
	if v, _ := a.Peek(cell); v != want {
		t.Errorf("the cell %d is %d, want %d", cell, v, want)
	}
}

func wantSteps(t *testing.T, l *loom.Loom, want ...int) {
	t.Helper()
	if got := l.Steps(); !slices.Equal(got, want) {
		t.Errorf("L5: Steps = %v, want %v", got, want)
	}
}

func wantFault(t *testing.T, a *arena.Arena, want api.Fault) {
	t.Helper()
	if f, is := a.Fault(); f != want || !is {
		t.Errorf("Fault = %v, %v, want %v", f, is, want)
	}
}

const twoThreads = "thread first 1 1\n add [0] r1\n add [0] r2\nend\nthread second 5\n store [0] r1\nend\n"

func TestExamples(t *testing.T) {
	a := newArena(t, 2)
	ms := threads(t, "thread first 1\n set r2 1\n add [0] r2\n set r2 1\n add [0] r2\nend\nthread second 5\n store [0] r1\nend\n")
	l := newLoom(t, a, ms...)
	wantTurn(t, l, 0, api.Turn{Who: 0, Moved: true})
	wantCell(t, a, 0, 1)
	wantTurn(t, l, 3, api.Turn{Who: 1, Moved: true, Over: true})
	wantCell(t, a, 0, 5)
	wantTurn(t, l, -1, api.Turn{Who: 1, Over: true})
	wantTurn(t, l, 2, api.Turn{Who: 0, Moved: true, Over: true})
	wantCell(t, a, 0, 6)
	wantSteps(t, l, 2, 1)
	if !l.Over() || l.Run([]int{0, 0}) != 0 {
		t.Error("L3, L4: not over")
	}

	a = newArena(t, 2)
	l = newLoom(t, a, threads(t, twoThreads)...)
	if n := l.Finish(100); n != 3 {
		t.Errorf("L4: Finish(100) = %d", n)
	}
	wantWhos(t, a, 0, 1, 0)

	a = newArena(t, 2)
	l = newLoom(t, a, threads(t, twoThreads)...)
	if n := l.Run([]int{1, 1, 1, 0}); n != 4 {
		t.Errorf("L4: Run = %d", n)
	}
	wantSteps(t, l, 1, 1)
	if n := l.Finish(1); n != 1 || !l.Over() {
		t.Errorf("L4: Finish(1) = %d", n)
	}
}

// wantWhos looks at who made the accesses of a log.
func wantWhos(t *testing.T, a *arena.Arena, want ...int) {
	t.Helper()
	var got []int
	for _, x := range a.Log() {
		got = append(got, x.Who)
	}
	if !slices.Equal(got, want) {
		t.Errorf("L8: accesses of %v, want %v", got, want)
	}
}

func TestPortsHaveTheMachinesNumbers(t *testing.T) {
	a := newArena(t, 1)
	ms := []*machine{adder(2), adder(2), adder(2)}
	list := []loom.Machine{ms[0], ms[1], ms[2], adder(9)}[:3]
	l := newLoom(t, a, list...)
	k, _ := loom.New(a, list)
	list[0], list[1], list[2] = adder(7), adder(7), adder(7)
	l.Run([]int{2, 1, 0})
	k.Run([]int{2, 1, 0})
	for i, m := range ms {
		if !slices.Equal(m.who, []int{i, i}) {
			t.Errorf("L1: the machine %d was handed the ports %v", i, m.who)
		}
	}
	wantWhos(t, a, 2, 1, 0, 2, 1, 0)
}

func TestNoMachines(t *testing.T) {
	a := newArena(t, 1)
	for _, ms := range [][]loom.Machine{nil, {}} {
		l := newLoom(t, a, ms...)
		for _, w := range []int{0, 3, -1, math.MinInt} {
			wantTurn(t, l, w, api.Turn{Who: -1})
		}
		if !l.Over() || l.Run([]int{0, 0}) != 0 || l.Finish(5) != 0 || len(l.Steps()) != 0 {
			t.Error("L2 to L5: a loom of no machines")
		}
	}
	if _, is := a.Fault(); is || a.Count() != 0 {
		t.Error("L2: a loom of no machines does something")
	}
}

func TestPicksAreRests(t *testing.T) {
	for _, c := range []struct{ w, n, who int }{
		{0, 3, 0}, {2, 3, 2}, {3, 3, 0}, {7, 3, 1}, {-1, 3, 2}, {-3, 3, 0}, {-4, 3, 2}, {5, 1, 0}, {-5, 1, 0},
		{math.MaxInt, 2, 1}, {math.MinInt, 2, 0}, {math.MinInt, 3, 1}, {math.MaxInt, 3, 1},
	} {
		a := newArena(t, 1)
		var ms []loom.Machine
		for range c.n {
			ms = append(ms, adder(2))
		}
		l := newLoom(t, a, ms...)
		wantTurn(t, l, c.w, api.Turn{Who: c.who, Moved: true})
		want := make([]int, c.n)
		want[c.who] = 1
		wantSteps(t, l, want...)
	}
}

func TestMachinesThatAreOverAtOnce(t *testing.T) {
	a := newArena(t, 1)
	m := adder(0)
	l := newLoom(t, a, m, adder(1))
	if l.Over() {
		t.Error("L3: one of two is over")
	}
	wantTurn(t, l, 0, api.Turn{Over: true})
	if len(m.who) != 0 || a.Count() != 0 {
		t.Error("L2: one that is over was stepped")
	}
	if n := l.Run([]int{0, 0, 0}); n != 3 {
		t.Errorf("L4: picks that do nothing count: Run = %d", n)
	}
	if n := l.Finish(9); n != 2 || !l.Over() {
		t.Errorf("L4: Finish = %d", n)
	}
	wantSteps(t, l, 0, 1)
}

func TestStepsThatGoWrong(t *testing.T) {
	for _, c := range []struct {
		name  string
		make  func(p *arena.Port)
		moved bool
		count int
		fault api.Fault
	}{
		{"no access", func(p *arena.Port) {}, false, 0, api.Fault{Who: 1, Kind: api.FaultNone}},
		{"two accesses", func(p *arena.Port) { p.Load(0); p.Load(1) }, true, 1, api.Fault{Who: 1, Kind: api.FaultTwice, Cell: 1}},
		{"no such cell", func(p *arena.Port) { p.Load(2) }, false, 0, api.Fault{Who: 1, Kind: api.FaultCell, Cell: 2}},
		{"no such cell, then one", func(p *arena.Port) { p.Load(-1); p.Load(0) }, false, 0, api.Fault{Who: 1, Kind: api.FaultCell, Cell: -1}},
		{"an access and a grant", func(p *arena.Port) { p.Load(0); p.Grant() }, true, 1, api.Fault{Who: 1, Kind: api.FaultNone}},
	} {
		a := newArena(t, 2)
		m, other := &machine{left: 3, make: c.make}, adder(3)
		l := newLoom(t, a, other, m)
		wantTurn(t, l, 1, api.Turn{Who: 1, Moved: c.moved})
		wantFault(t, a, c.fault)
		if a.Count() != c.count {
			t.Errorf("L2: %s: Count %d", c.name, a.Count())
		}
		steps := 0
		if c.moved {
			steps = 1
		}
		wantSteps(t, l, 0, steps)
		wantTurn(t, l, 0, api.Turn{Who: 0})
		wantTurn(t, l, 1, api.Turn{Who: 1})
		if !l.Over() || l.Run([]int{0, 1}) != 0 || l.Finish(4) != 0 || other.left != 3 || m.left != 2 {
			t.Errorf("L2 to L4: %s: something is done behind the stop", c.name)
		}
	}
}

// TestFaultOfTheStep: a machine that stops the arena itself keeps its own fault.
func TestFaultOfTheStep(t *testing.T) {
	a := newArena(t, 1)
	own := api.Fault{Who: 40, Kind: 41, Cell: 42}
	l := newLoom(t, a, &machine{left: 1, make: func(p *arena.Port) { a.Stop(own) }})
	wantTurn(t, l, 0, api.Turn{Over: true})
	wantFault(t, a, own)
}

// TestPicksOfAStoppedArena: Over of the pick still tells of its machine.
func TestPicksOfAStoppedArena(t *testing.T) {
	a := newArena(t, 1)
	l := newLoom(t, a, adder(0), adder(1))
	a.Stop(api.Fault{})
	wantTurn(t, l, 0, api.Turn{Who: 0, Over: true})
	wantTurn(t, l, 1, api.Turn{Who: 1})
	if !l.Over() {
		t.Error("L3: not over, though the arena is stopped")
	}
}

func TestRunAndFinish(t *testing.T) {
	a := newArena(t, 1)
	l := newLoom(t, a, adder(2), adder(4), adder(1))
	for _, most := range []int{0, -1, math.MinInt} {
		if n := l.Finish(most); n != 0 || a.Count() != 0 {
			t.Errorf("L4: Finish(%d) = %d", most, n)
		}
	}
	if n := l.Run(nil); n != 0 {
		t.Errorf("L4: Run of no picks = %d", n)
	}
	if n := l.Finish(2); n != 2 {
		t.Errorf("L4: Finish(2) = %d", n)
	}
	if n := l.Finish(2); n != 2 { // begins with 0 again
		t.Errorf("L4: Finish(2) = %d", n)
	}
	wantWhos(t, a, 0, 1, 0, 1)
	if n := l.Run([]int{0, 2, 0, 1, 2, 1, 0, 1}); n != 6 {
		t.Errorf("L4: Run = %d", n)
	}
	wantWhos(t, a, 0, 1, 0, 1, 2, 1, 1)
	wantSteps(t, l, 2, 4, 1)
	if n := l.Finish(math.MaxInt); n != 0 {
		t.Errorf("L4: Finish behind the end = %d", n)
	}
}

func TestFinishGoesInTurns(t *testing.T) {
	a := newArena(t, 1)
	l := newLoom(t, a, adder(1), adder(3), adder(2))
	if n := l.Finish(math.MaxInt); n != 8 {
		t.Errorf("L4: Finish = %d", n)
	}
	wantWhos(t, a, 0, 1, 2, 1, 2, 1)
	wantSteps(t, l, 1, 3, 2)
}

func TestStepsAreNew(t *testing.T) {
	a := newArena(t, 1)
	l := newLoom(t, a, adder(2), adder(2))
	l.Run([]int{0, 1, 1})
	steps := l.Steps()
	steps[0], steps[1] = 9, 9
	wantSteps(t, l, 1, 2)
	picks := []int{-7, 5}
	l.Run(picks)
	if !slices.Equal(picks, []int{-7, 5}) {
		t.Error("P0.4: Run changes its picks")
	}
}

// lock is a lock that is tried again and again, and a counter, so many rounds.
const lock = "thread lock 3\nagain:\n set r2 0\n set r3 1\n cas [0] r2 r3\n zero r2 again\n load r4 [1]\n plus r4 r4 r3\n store [1] r4\n store [0] r0\n minus r1 r1 r3\n more r1 again\nend\n"

// TestEveryOrder: the log has one access a pick that was moved, by its Who, whatever the script.
func TestEveryOrder(t *testing.T) {
	for seed := range int64(30) {
		a := newArena(t, 2)
		l := newLoom(t, a, threads(t, lock+lock+lock)...)
		r := rand.New(rand.NewSource(seed))
		var moved []int
		for range 300 {
			if x := l.Pick(r.Intn(20) - 10); x.Moved {
				moved = append(moved, x.Who)
			}
			if a.Count() != len(moved) {
				t.Fatalf("L8: %d accesses, %d picks moved", a.Count(), len(moved))
			}
		}
		wantWhos(t, a, moved...)
		if at, end := arena.Replay([]uint64{0, 0}, a.Log()); at != -1 || !slices.Equal(end, a.Image()) {
			t.Errorf("P0.16: Replay = %d, %v", at, end)
		}
		l.Finish(10000)
		wantCell(t, a, 1, 9)
	}
}

// TestAllInterleavings: every order of three and three accesses can be had, and each is had as it was picked.
func TestAllInterleavings(t *testing.T) {
	text := "thread a\n load r1 [0]\n plus r1 r1 r2\n store [0] r1\n load r4 [0]\nend\n"
	lost := 0
	for script := range 64 {
		var picks []int
		for i := range 6 {
			picks = append(picks, script>>i&1)
		}
		if sum(picks) != 3 {
			continue
		}
		a := newArena(t, 1)
		a.Poke(0, 10)
		one, two := threadBy(t, text, 1), threadBy(t, text, 5)
		l := newLoom(t, a, one, two)
		if n := l.Run(picks); n != 6 || !l.Over() {
			t.Fatalf("L4: Run(%v) = %d", picks, n)
		}
		wantWhos(t, a, picks...)
		v, _ := a.Peek(0)
		if got, want := [3]uint64{v, one.Regs()[4], two.Regs()[4]}, byHand(picks); got != want {
			t.Errorf("L8: %v come to %v, want %v", picks, got, want)
		}
		if v != 16 {
			lost++
		}
	}
	if lost == 0 || lost == 20 {
		t.Errorf("L8: a sum is lost under %d of 20 scripts", lost)
	}
}

// byHand plays the two threads of TestAllInterleavings: the cell at the end, and what each has read last.
func byHand(picks []int) [3]uint64 {
	cell := uint64(10)
	var at [2]int
	var held, last [2]uint64
	for _, w := range picks {
		switch at[w] {
		case 0:
			held[w] = cell + []uint64{1, 5}[w]
		case 1:
			cell = held[w]
		case 2:
			last[w] = cell
		}
		at[w]++
	}
	return [3]uint64{cell, last[0], last[1]}
}

func sum(l []int) int {
	n := 0
	for _, v := range l {
		n += v
	}
	return n
}

// threadBy is the thread of a text, whose register 2 is by at the start.
func threadBy(t *testing.T, text string, by uint64) *thread.Thread {
	t.Helper()
	codes, e, _, _ := thread.Read(text)
	if e != api.OK {
		t.Fatalf("a text that is none: %d", e)
	}
	codes[0].Regs = []uint64{0, by}
	x, e := thread.New(codes[0])
	if e != api.OK {
		t.Fatalf("New = %d", e)
	}
	return x
}

func TestTheSameAgain(t *testing.T) {
	for seed := range int64(20) {
		var logs [2][]api.Access
		var turns [2][]api.Turn
		for i := range 2 {
			a := newArena(t, 2)
			l := newLoom(t, a, threads(t, lock+twoThreads+lock)...)
			r := rand.New(rand.NewSource(seed))
			for range 60 {
				turns[i] = append(turns[i], l.Pick(r.Int()))
			}
			l.Finish(40)
			logs[i] = a.Log()
		}
		if !slices.Equal(logs[0], logs[1]) || !slices.Equal(turns[0], turns[1]) {
			t.Fatalf("L9: the script %d, played again, does otherwise", seed)
		}
	}
}

// TestTurns: Finish ends with all over just if in turns each comes to its end.
func TestTurns(t *testing.T) {
	waits := "thread waits\nagain:\n load r1 [0]\n zero r1 again\nend\n"
	sets := "thread sets 1\n store [0] r1\nend\n"
	for _, c := range []struct {
		text string
		ends bool
	}{{waits + sets, true}, {sets + waits, true}, {waits, false}, {waits + waits, false}, {lock + lock + lock, true}, {"thread spins\nx:\n go x\nend\n", true}} {
		a := newArena(t, 2)
		l := newLoom(t, a, threads(t, c.text)...)
		n := l.Finish(1000)
		if l.Over() != c.ends || (n == 1000) == c.ends {
			t.Errorf("L10: Finish(1000) = %d, Over %v, of\n%s", n, l.Over(), c.text)
		}
	}
}
