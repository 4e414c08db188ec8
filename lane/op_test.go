package lane_test

import (
	"math"
	"slices"
	"testing"

	"wayfare/api"
	"wayfare/arena"
	"wayfare/lane"
)

// filled is an arena with a lane of these tasks.
func filled(t *testing.T, l api.Lane, tasks ...api.Task) *arena.Arena {
	t.Helper()
	cells, e := lane.Fill(l, tasks)
	if e != api.OK {
		t.Fatalf("N1: Fill = %d", e)
	}
	return holding(t, append(make([]uint64, l.Base), cells...))
}

// holding is an arena of these cells.
func holding(t *testing.T, cells []uint64) *arena.Arena {
	t.Helper()
	a, e := arena.New(len(cells), true)
	if e != api.OK {
		t.Fatalf("New = %d", e)
	}
	for i, v := range cells {
		a.Poke(i, v)
	}
	return a
}

func newPort(t *testing.T, a *arena.Arena) *arena.Port {
	t.Helper()
	p, e := a.Port(0)
	if e != api.OK {
		t.Fatalf("Port = %d", e)
	}
	return p
}

func made(t *testing.T, o *lane.Op, e api.Errno) *lane.Op {
	t.Helper()
	if o == nil || e != api.OK {
		t.Fatalf("refused: %d", e)
	}
	if o.Over() || o.Locked() {
		t.Fatal("Words: an operation does not stand at its first access")
	}
	return o
}

func push(t *testing.T, l api.Lane, who int, tasks ...api.Task) *lane.Op {
	t.Helper()
	o, e := lane.Push(l, who, tasks)
	return made(t, o, e)
}

func pop(t *testing.T, l api.Lane, who, k int) *lane.Op {
	t.Helper()
	o, e := lane.Pop(l, who, k)
	return made(t, o, e)
}

// step makes one step, which is one access.
func step(t *testing.T, a *arena.Arena, o *lane.Op) {
	t.Helper()
	from, p := a.Count(), newPort(t, a)
	p.Grant()
	if o.Step(p); a.Count() != from+1 {
		t.Fatalf("Words: a step makes %d accesses", a.Count()-from)
	}
}

// play steps an operation to its end, and tells its accesses.
func play(t *testing.T, a *arena.Arena, o *lane.Op) []api.Access {
	t.Helper()
	from := a.Count()
	for !o.Over() {
		step(t, a, o)
	}
	return a.Log()[from:]
}

func wantReply(t *testing.T, o *lane.Op, status int, tasks ...api.Task) {
	t.Helper()
	if r := o.Reply(); r.Status != status || !slices.Equal(r.Tasks, tasks) {
		t.Errorf("N5: Reply = %v, want %d %v", r, status, tasks)
	}
}

func wantHold(t *testing.T, o *lane.Op, cells []uint64, want ...api.Task) {
	t.Helper()
	if l, e := o.Hold(cells); !slices.Equal(l, want) || e != api.OK {
		t.Errorf("N6: Hold = %v, %d, want %v", l, e, want)
	}
}

func wantNoLock(t *testing.T, o *lane.Op, cells []uint64) {
	t.Helper()
	if l, e := o.Hold(cells); o.Locked() || len(l) != 0 || e != api.ErrState {
		t.Errorf("N6: without the lock: Locked %v, Hold = %v, %d", o.Locked(), l, e)
	}
}

func wantCell(t *testing.T, a *arena.Arena, cell int, want uint64) {
	t.Helper()
	if v, _ := a.Peek(cell); v != want {
		t.Errorf("N4: the cell %d is %d, want %d", cell, v, want)
	}
}

// short is an access in short: kind, cell, what it holds behind.
type short struct {
	kind, cell int
	left       uint64
}

func load(cell int, v uint64) short  { return short{api.AccLoad, cell, v} }
func store(cell int, v uint64) short { return short{api.AccStore, cell, v} }
func cas(cell int, v uint64) short   { return short{api.AccCas, cell, v} }

func wantLog(t *testing.T, row string, log []api.Access, want ...short) {
	t.Helper()
	var got []short
	for _, x := range log {
		got = append(got, short{x.Kind, x.Cell, x.Left})
		if x.Kind == api.AccCas && x.Want != 0 {
			t.Errorf("%s: the Cas wants %d", row, x.Want)
		}
	}
	if !slices.Equal(got, want) {
		t.Errorf("%s: accesses %v, want %v", row, got, want)
	}
}

// TestExamples: the chapter's table, row by row.
func TestExamples(t *testing.T) {
	l := api.Lane{Cap: 3, Arity: 2}
	a := filled(t, l)
	o := push(t, l, 0, pair(5, 50))
	wantLog(t, "Push", play(t, a, o), cas(0, 1), load(2, 0), store(3, 5), store(4, 50), store(2, 1), load(2, 1), load(3, 5), store(1, 5), store(0, 0))
	wantReply(t, o, api.StDone)
	o = pop(t, l, 1, 2)
	wantLog(t, "Pop of two", play(t, a, o), cas(0, 2), load(2, 1), load(3, 5), load(4, 50), store(2, 0), load(2, 0), load(2, 0), store(1, never), store(0, 0))
	wantReply(t, o, api.StTask, pair(5, 50))
	o = pop(t, l, 1, 1)
	wantLog(t, "Pop of an empty lane", play(t, a, o), cas(0, 2), load(2, 0), load(2, 0), store(1, never), store(0, 0))
	wantReply(t, o, api.StEmpty)
	o = pop(t, l, 1, 1)
	step(t, a, o)
	busy := push(t, l, 0, pair(1, 1))
	wantLog(t, "busy", play(t, a, busy), cas(0, 2))
	wantReply(t, busy, api.StBusy, pair(1, 1))
	play(t, a, o)
	o = push(t, l, 0, pair(4, 0), pair(3, 0), pair(2, 0), pair(1, 9))
	play(t, a, o)
	wantReply(t, o, api.StFull, pair(1, 9))
	wantCell(t, a, 1, 2)
	wantCell(t, a, 0, 0)
	if n, e := lane.Cells(api.Lane{Base: 0, Cap: 0, Arity: 2}); n != 0 || e != api.ErrShape {
		t.Errorf("Cells({0 0 2}) = %d, %d", n, e)
	}
}

// TestPushOfSeveral: one heap's Push behind the other, then one publishing; Hold has what is not begun.
func TestPushOfSeveral(t *testing.T) {
	l := api.Lane{Cap: 2, Arity: 2}
	a := filled(t, l)
	o := push(t, l, 3, pair(5, 0), pair(4, 0))
	wantNoLock(t, o, a.Image())
	for range 17 {
		step(t, a, o)
		if o.Over() {
			break
		}
		wantHold(t, o, a.Image(), pair(4, 0), pair(5, 0))
		wantCell(t, a, 0, 4)
		wantReply(t, o, api.StOpen)
	}
	wantLog(t, "Push of two", a.Log(), cas(0, 4),
		load(2, 0), store(3, 5), store(4, 0), store(2, 1),
		load(2, 1), load(3, 5), load(4, 0), store(5, 5), store(6, 0), store(3, 4), store(4, 0), store(2, 2),
		load(2, 2), load(3, 4), store(1, 4), store(0, 0))
	wantReply(t, o, api.StDone)
	wantNoLock(t, o, a.Image())
}

// TestPushWithoutRoom: what found none, and all behind it, comes back; until then it is held.
func TestPushWithoutRoom(t *testing.T) {
	l := api.Lane{Base: 2, Cap: 1, Arity: 2}
	for n := 1; n < 5; n++ {
		tasks := []api.Task{pair(9, 9), pair(8, 8), pair(7, 7), pair(7, 1), pair(0, 0)}[:n]
		a := filled(t, l, pair(6, 6))
		o := push(t, l, 0, tasks...)
		held := sorted(append(slices.Clone(tasks), pair(6, 6)))
		for step(t, a, o); !o.Over(); step(t, a, o) {
			wantHold(t, o, a.Image(), held...)
		}
		wantLog(t, "Push into a full lane", a.Log(), cas(2, 1), load(4, 1), load(4, 1), load(5, 6), store(3, 6), store(2, 0))
		wantReply(t, o, api.StFull, tasks...)
		a = filled(t, l)
		o = push(t, l, 0, tasks...)
		held = sorted(tasks)
		for step(t, a, o); !o.Over(); step(t, a, o) {
			wantHold(t, o, a.Image(), held...)
		}
		if n == 1 {
			wantReply(t, o, api.StDone)
		} else {
			wantReply(t, o, api.StFull, tasks[1:]...)
		}
		wantCell(t, a, 3, 9)
	}
}

// TestPopOfSeveral: up to k, in the order in which they come; what it has had already is held.
func TestPopOfSeveral(t *testing.T) {
	l := api.Lane{Base: 1, Cap: 80, Arity: 3}
	var tasks []api.Task
	for i := range uint64(70) {
		tasks = append(tasks, pair(i*37%70, i))
	}
	all := sorted(tasks)
	for _, k := range []int{1, 2, 3, 63, api.MaxBuffer} {
		a := filled(t, l, tasks...)
		o := pop(t, l, 0, k)
		for step(t, a, o); !o.Over(); step(t, a, o) {
			wantHold(t, o, a.Image(), all...)
		}
		wantReply(t, o, api.StTask, all[:k]...)
		wantCell(t, a, 2, all[k].Key)
		if left, e := lane.Items(l, a.Image()); !slices.Equal(left, all[k:]) || e != api.OK {
			t.Errorf("N3: Pop of %d leaves %v", k, left)
		}
		o = pop(t, l, 0, api.MaxBuffer)
		play(t, a, o)
		end := min(k+api.MaxBuffer, 70)
		wantReply(t, o, api.StTask, all[k:end]...)
		if end == 70 {
			wantCell(t, a, 2, never)
		}
	}
}

// TestPopStopsAtK: behind the k-th task no other Pop of the heap is begun.
func TestPopStopsAtK(t *testing.T) {
	l := api.Lane{Cap: 2, Arity: 2}
	a := filled(t, l, pair(5, 50))
	o := pop(t, l, 0, 1)
	wantLog(t, "Pop of one", play(t, a, o), cas(0, 1), load(2, 1), load(3, 5), load(4, 50), store(2, 0), load(2, 0), store(1, never), store(0, 0))
	wantReply(t, o, api.StTask, pair(5, 50))
}

// TestWho: the lock holds the number of the worker and one, however great.
func TestWho(t *testing.T) {
	l := api.Lane{Base: 1, Cap: 1, Arity: 2}
	for _, who := range []int{0, 1, 63, 64, math.MaxInt} {
		for _, o := range []*lane.Op{push(t, l, who, pair(1, 1)), pop(t, l, who, 1)} {
			a := filled(t, l)
			step(t, a, o)
			wantCell(t, a, 1, uint64(who)+1)
			if !o.Locked() {
				t.Error("N5: it has exchanged, and not the lock")
			}
			play(t, a, o)
			wantCell(t, a, 1, 0)
		}
	}
}

// TestBusy: whoever has the lock, even one of the same number; nothing is changed.
func TestBusy(t *testing.T) {
	l := api.Lane{Cap: 2, Arity: 2}
	for _, lock := range []uint64{1, 2, 7, never} {
		a := filled(t, l, pair(5, 5))
		a.Poke(0, lock)
		was := a.Image()
		tasks := []api.Task{pair(3, 3), pair(1, 1), pair(2, 2)}
		o := push(t, l, 0, tasks...)
		wantLog(t, "busy", play(t, a, o), cas(0, lock))
		wantReply(t, o, api.StBusy, tasks...)
		wantNoLock(t, o, a.Image())
		o = pop(t, l, 0, 2)
		wantLog(t, "busy", play(t, a, o), cas(0, lock))
		wantReply(t, o, api.StBusy)
		wantNoLock(t, o, a.Image())
		if !slices.Equal(a.Image(), was) {
			t.Errorf("N2: one that is told StBusy leaves %v", a.Image())
		}
	}
}

// TestOverDoesNothing: a step of one that is over makes no access, and changes no answer.
func TestOverDoesNothing(t *testing.T) {
	l := api.Lane{Cap: 2, Arity: 2}
	a := filled(t, l)
	done, empty, busy := push(t, l, 0, pair(1, 1)), pop(t, l, 0, 1), pop(t, l, 0, 1)
	play(t, a, empty)
	play(t, a, done)
	a.Poke(0, 4)
	play(t, a, busy)
	n, p := a.Count(), newPort(t, a)
	for _, o := range []*lane.Op{done, empty, busy, {}} {
		p.Grant()
		o.Step(p)
		if a.Count() != n || !p.Granted() || !o.Over() || o.Locked() {
			t.Error("Words: a step of one that is over does something")
		}
	}
	wantReply(t, done, api.StDone)
	wantReply(t, empty, api.StEmpty)
	wantReply(t, busy, api.StBusy)
}

// TestHoldRefuses: too few cells are told ahead of a lock that is not had, and the operation goes on as if it had not been asked.
func TestHoldRefuses(t *testing.T) {
	l := api.Lane{Base: 2, Cap: 3, Arity: 2}
	a := filled(t, l, pair(4, 4), pair(3, 3))
	o := pop(t, l, 0, 2)
	for i := 0; ; i++ {
		for _, n := range []int{0, 2, 4, 10} {
			if x, e := o.Hold(make([]uint64, n)); len(x) != 0 || e != api.ErrList {
				t.Errorf("Hold of %d cells behind %d steps: %v, %d", n, i, x, e)
			}
		}
		if i == 0 || o.Over() {
			wantNoLock(t, o, a.Image())
		} else {
			wantHold(t, o, a.Image(), pair(3, 3), pair(4, 4))
			wantHold(t, o, append(a.Image(), 5, 5), pair(3, 3), pair(4, 4))
		}
		if o.Over() {
			break
		}
		step(t, a, o)
	}
	wantReply(t, o, api.StTask, pair(3, 3), pair(4, 4))
	var zero lane.Op
	if x, e := zero.Hold(make([]uint64, 99)); len(x) != 0 || e != api.ErrShape {
		t.Errorf("P0.1: Hold of one that no call has made: %v, %d", x, e)
	}
}

// TestPublishOfAnySize: a size above Cap is not 0.
func TestPublishOfAnySize(t *testing.T) {
	l := api.Lane{Cap: 1, Arity: 2}
	for _, size := range []uint64{2, 1 << 32, 1 << 63, never} {
		a := holding(t, []uint64{0, 3, size, 7, 70})
		o := push(t, l, 0, pair(1, 1))
		wantLog(t, "Push", play(t, a, o), cas(0, 1), load(2, size), load(2, size), load(3, 7), store(1, 7), store(0, 0))
		wantReply(t, o, api.StFull, pair(1, 1))
		o = pop(t, l, 0, 1)
		play(t, a, o)
		wantReply(t, o, api.StTask, pair(7, 70))
		wantCell(t, a, 1, never)
	}
}
