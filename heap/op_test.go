package heap_test

import (
	"math/rand"
	"slices"
	"testing"

	"wayfare/api"
	"wayfare/arena"
	"wayfare/heap"
)

// newArena is an arena that just holds the heap, or these cells.
func newArena(t *testing.T, h api.Heap, cells []uint64) *arena.Arena {
	t.Helper()
	a, e := arena.New(max(h.Base+1+2*h.Cap, len(cells)), true)
	if e != api.OK {
		t.Fatalf("New = %d", e)
	}
	for i, v := range cells {
		a.Poke(i, v)
	}
	return a
}

// filled is an arena with a heap of these tasks.
func filled(t *testing.T, h api.Heap, tasks ...api.Task) *arena.Arena {
	t.Helper()
	cells, e := heap.Fill(h, tasks)
	if e != api.OK {
		t.Fatalf("H2: Fill = %d", e)
	}
	return newArena(t, h, append(make([]uint64, h.Base), cells...))
}

func newPort(t *testing.T, a *arena.Arena) *arena.Port {
	t.Helper()
	p, e := a.Port(0)
	if e != api.OK {
		t.Fatalf("Port = %d", e)
	}
	return p
}

func made(t *testing.T, o *heap.Op, e api.Errno) *heap.Op {
	t.Helper()
	if o == nil || e != api.OK {
		t.Fatalf("H4: refused: %d", e)
	}
	if o.Over() {
		t.Fatal("H4: over ahead of its first access")
	}
	return o
}

func push(t *testing.T, h api.Heap, x api.Task) *heap.Op {
	t.Helper()
	o, e := heap.Push(h, x)
	return made(t, o, e)
}

func pop(t *testing.T, h api.Heap) *heap.Op {
	t.Helper()
	o, e := heap.Pop(h)
	return made(t, o, e)
}

func peek(t *testing.T, h api.Heap) *heap.Op {
	t.Helper()
	o, e := heap.Peek(h)
	return made(t, o, e)
}

// play steps an operation to its end, and tells what it has come to and its accesses.
func play(t *testing.T, a *arena.Arena, o *heap.Op) (api.Reply, []api.Access) {
	t.Helper()
	from, p := a.Count(), newPort(t, a)
	for i := 1; !o.Over(); i++ {
		p.Grant()
		o.Step(p)
		if a.Count() != from+i {
			t.Fatalf("H5: %d steps made %d accesses", i, a.Count()-from)
		}
	}
	return o.Reply(), a.Log()[from:]
}

func wantReply(t *testing.T, o *heap.Op, status int, tasks ...api.Task) {
	t.Helper()
	if r := o.Reply(); r.Status != status || !slices.Equal(r.Tasks, tasks) {
		t.Errorf("H5: Reply = %v, want %d %v", r, status, tasks)
	}
}

func wantHold(t *testing.T, o *heap.Op, cells []uint64, want []api.Task) {
	t.Helper()
	if l, e := o.Hold(cells); !slices.Equal(l, want) || e != api.OK {
		t.Errorf("H5: Hold = %v, %d, want %v", l, e, want)
	}
}

// short is an access in short: kind, cell, what it holds behind.
type short struct {
	kind, cell int
	left       uint64
}

func load(cell int, v uint64) short  { return short{api.AccLoad, cell, v} }
func store(cell int, v uint64) short { return short{api.AccStore, cell, v} }

// TestExamples: the chapter's table, row by row.
func TestExamples(t *testing.T) {
	h := api.Heap{Base: 10, Cap: 3, Arity: 2}
	a := newArena(t, h, nil)
	for i, c := range []struct {
		o      *heap.Op
		log    []short
		status int
		tasks  []api.Task
	}{
		{push(t, h, pair(5, 1)), []short{load(10, 0), store(11, 5), store(12, 1), store(10, 1)}, api.StDone, nil},
		{push(t, h, pair(3, 2)), []short{load(10, 1), load(11, 5), load(12, 1), store(13, 5), store(14, 1), store(11, 3), store(12, 2), store(10, 2)}, api.StDone, nil},
		{push(t, h, pair(3, 9)), []short{load(10, 2), load(11, 3), store(15, 3), store(16, 9), store(10, 3)}, api.StDone, nil},
		{push(t, h, pair(1, 1)), []short{load(10, 3)}, api.StFull, []api.Task{pair(1, 1)}},
		{peek(t, h), []short{load(10, 3), load(11, 3), load(12, 2)}, api.StTask, []api.Task{pair(3, 2)}},
		{pop(t, h), []short{load(10, 3), load(11, 3), load(12, 2), store(10, 2), load(15, 3), load(16, 9), load(13, 5), store(11, 3), store(12, 9)}, api.StTask, []api.Task{pair(3, 2)}},
		{pop(t, h), []short{load(10, 2), load(11, 3), load(12, 9), store(10, 1), load(13, 5), load(14, 1), store(11, 5), store(12, 1)}, api.StTask, []api.Task{pair(3, 9)}},
		{pop(t, h), []short{load(10, 1), load(11, 5), load(12, 1), store(10, 0)}, api.StTask, []api.Task{pair(5, 1)}},
		{pop(t, h), []short{load(10, 0)}, api.StEmpty, nil},
		{peek(t, h), []short{load(10, 0)}, api.StEmpty, nil},
	} {
		wantReply(t, c.o, api.StOpen)
		_, log := play(t, a, c.o)
		var got []short
		for _, x := range log {
			got = append(got, short{x.Kind, x.Cell, x.Left})
		}
		if !slices.Equal(got, c.log) {
			t.Errorf("row %d: accesses %v, want %v", i, got, c.log)
		}
		wantReply(t, c.o, c.status, c.tasks...)
	}
}

// TestHoldOfTheExample: the second Push of the table.
func TestHoldOfTheExample(t *testing.T) {
	h := api.Heap{Base: 10, Cap: 3, Arity: 2}
	a := filled(t, h, pair(5, 1))
	o, p := push(t, h, pair(3, 2)), newPort(t, a)
	both := []api.Task{pair(3, 2), pair(5, 1)}
	for steps := 0; ; steps++ {
		wantHold(t, o, a.Image(), both)
		if o.Over() {
			if steps != 8 {
				t.Errorf("over behind %d steps", steps)
			}
			return
		}
		p.Grant()
		o.Step(p)
	}
}

// TestHoldGoesByTheCells: ahead of its first step and behind its end an operation holds what the size says now.
func TestHoldGoesByTheCells(t *testing.T) {
	h := api.Heap{Cap: 2, Arity: 2}
	o := push(t, h, pair(4, 4))
	wantHold(t, o, []uint64{0, 1, 1, 2, 2}, []api.Task{pair(4, 4)})
	wantHold(t, o, []uint64{1, 1, 1, 2, 2}, []api.Task{pair(1, 1), pair(4, 4)})
	wantHold(t, o, []uint64{2, 5, 1, 2, 2}, []api.Task{pair(2, 2), pair(4, 4), pair(5, 1)})
	wantHold(t, o, []uint64{never, 5, 1, 2, 2, 9}, []api.Task{pair(2, 2), pair(4, 4), pair(5, 1)})
	play(t, newArena(t, h, []uint64{7, 1, 1, 2, 2}), o)
	wantReply(t, o, api.StFull, pair(4, 4))
	wantHold(t, o, []uint64{1, 8, 8, 2, 2}, []api.Task{pair(8, 8)})
	for _, o := range []*heap.Op{pop(t, h), peek(t, h)} {
		wantHold(t, o, []uint64{0, 1, 1, 2, 2}, nil)
		wantHold(t, o, []uint64{3, 2, 1, 2, 0}, []api.Task{pair(2, 0), pair(2, 1)})
		play(t, newArena(t, h, []uint64{1, 6, 7, 2, 2}), o)
		wantReply(t, o, api.StTask, pair(6, 7))
		wantHold(t, o, []uint64{1, 6, 7, 2, 2}, []api.Task{pair(6, 7)})
		wantHold(t, o, []uint64{0, 6, 7, 2, 2}, nil)
	}
}

// TestHoldRefuses: cells that end too early, at every step; the operation goes on as if it had not been asked.
func TestHoldRefuses(t *testing.T) {
	h := api.Heap{Base: 3, Cap: 4, Arity: 2}
	for kind := range 3 {
		a := filled(t, h, pair(5, 1), pair(4, 2), pair(3, 3))
		m := &model{h: h, cells: a.Image(), most: 1 << 30}
		o, want := both(t, m, kind, pair(1, 9))
		p := newPort(t, a)
		for range m.steps + 1 {
			for _, n := range []int{0, 3, 11} {
				if l, e := o.Hold(make([]uint64, n)); len(l) != 0 || e != api.ErrList {
					t.Errorf("H3: Hold of %d cells: %v, %d", n, l, e)
				}
			}
			p.Grant()
			o.Step(p)
		}
		wantReply(t, o, want.Status, want.Tasks...)
		if !slices.Equal(a.Log(), m.log) {
			t.Errorf("P0.5: a refused Hold has changed the operation: %v", a.Log())
		}
	}
}

func TestPushRefuses(t *testing.T) {
	for _, c := range shapes {
		if o, e := heap.Push(c.h, pair(never, 5)); o != nil || e != api.ErrLabel {
			t.Errorf("H4: Push of Never: %d", e)
		}
		push(t, c.h, pair(never-1, never))
		pop(t, c.h)
		peek(t, c.h)
	}
}

// TestCapOne: a heap of one place.
func TestCapOne(t *testing.T) {
	for _, arity := range []int{2, api.MaxArity} {
		h := api.Heap{Base: 1, Cap: 1, Arity: arity}
		a := newArena(t, h, nil)
		for i, c := range []struct {
			o      *heap.Op
			steps  int
			status int
			tasks  []api.Task
		}{
			{pop(t, h), 1, api.StEmpty, nil},
			{push(t, h, pair(2, 3)), 4, api.StDone, nil},
			{push(t, h, pair(1, 1)), 1, api.StFull, []api.Task{pair(1, 1)}},
			{peek(t, h), 3, api.StTask, []api.Task{pair(2, 3)}},
			{pop(t, h), 4, api.StTask, []api.Task{pair(2, 3)}},
			{peek(t, h), 1, api.StEmpty, nil},
		} {
			if _, log := play(t, a, c.o); len(log) != c.steps {
				t.Errorf("Cap 1: operation %d makes %d accesses, want %d", i, len(log), c.steps)
			}
			wantReply(t, c.o, c.status, c.tasks...)
		}
	}
}

// TestSizeAboveCap: it counts as Cap, whoever reads it.
func TestSizeAboveCap(t *testing.T) {
	h := api.Heap{Cap: 2, Arity: 2}
	for _, size := range []uint64{2, 3, 1 << 32, 1 << 63, never} {
		cells := []uint64{size, 1, 10, 2, 20}
		a := newArena(t, h, cells)
		o := push(t, h, pair(0, 0))
		play(t, a, o)
		wantReply(t, o, api.StFull, pair(0, 0))
		o = peek(t, h)
		play(t, a, o)
		wantReply(t, o, api.StTask, pair(1, 10))
		o = pop(t, h)
		play(t, a, o)
		wantReply(t, o, api.StTask, pair(1, 10))
		if got := a.Image(); !slices.Equal(got, []uint64{1, 2, 20, 2, 20}) {
			t.Errorf("a size of %d: Pop leaves %v", size, got)
		}
	}
}

// TestCellsThatOthersChange: nothing here locks; an operation whose cells change under it ends all the same.
func TestCellsThatOthersChange(t *testing.T) {
	r := rand.New(rand.NewSource(5))
	for range 2000 {
		h := api.Heap{Cap: 1 + r.Intn(20), Arity: 2 + r.Intn(3)}
		a := newArena(t, h, cellsByChance(r, h))
		o, _ := both(t, &model{h: h, cells: a.Image(), most: 1 << 30}, r.Intn(3), pair(uint64(r.Intn(7)), 0))
		p := newPort(t, a)
		for i := 0; !o.Over(); i++ {
			if i > 200 {
				t.Fatal("P0.1: no end")
			}
			a.Poke(r.Intn(a.Len()), r.Uint64()>>r.Intn(64))
			if _, e := o.Hold(a.Image()); e != api.OK {
				t.Fatalf("H5: Hold refuses: %d", e)
			}
			p.Grant()
			o.Step(p)
		}
	}
}

// TestPortsThatLeadNowhere: what is not made answers 0, whatever the reason.
func TestPortsThatLeadNowhere(t *testing.T) {
	h := api.Heap{Base: 4, Cap: 3, Arity: 2}
	few, _ := arena.New(2, true)
	stopped, open := filled(t, h, pair(1, 1), pair(2, 2)), filled(t, h, pair(1, 1), pair(2, 2))
	stopped.Stop(api.Fault{Who: 9})
	for i, p := range []*arena.Port{nil, {}, newPort(t, few), newPort(t, stopped), newPort(t, open)} {
		pushed, popped, peeked := push(t, h, pair(6, 6)), pop(t, h), peek(t, h)
		for _, o := range []*heap.Op{pushed, popped, peeked} {
			for range 4 {
				if i < 4 { // the last one is never granted anything
					p.Grant()
				}
				o.Step(p)
			}
		}
		wantReply(t, pushed, api.StDone)
		wantReply(t, popped, api.StEmpty)
		wantReply(t, peeked, api.StEmpty)
	}
	if f, is := few.Fault(); !is || f != (api.Fault{Kind: api.FaultCell, Cell: 4}) {
		t.Errorf("a cell that is not there: %v, %v", f, is)
	}
	if f, is := open.Fault(); !is || f != (api.Fault{Kind: api.FaultTwice, Cell: 4}) {
		t.Errorf("a step without a grant: %v, %v", f, is)
	}
}
