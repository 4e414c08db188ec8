package heap_test

import (
	"math"
	"runtime"
	"slices"
	"testing"

	"wayfare/api"
	"wayfare/arena"
	"wayfare/heap"
)

// spare makes a list whose spare room is filled with one thing.
func spare[T any](fill T, list ...T) []T {
	room := append(slices.Clone(list), fill, fill, fill)
	return room[:len(list)]
}

// full is a list with its spare room laid open.
func full[T any](l []T) []T { return slices.Clone(l[:cap(l)]) }

// spoil writes over a list and its spare room.
func spoil[T any](l []T, with T) {
	l = l[:cap(l)]
	for i := range l {
		l[i] = with
	}
}

func TestFillSharesNothing(t *testing.T) {
	h := api.Heap{Cap: 3, Arity: 2}
	tasks := spare(pair(77, 77), pair(7, 1), pair(4, 2))
	was, want := full(tasks), []uint64{2, 4, 2, 7, 1, 0, 0}
	one, _ := heap.Fill(h, tasks)
	two, _ := heap.Fill(h, tasks)
	heap.Fill(h, spare(pair(77, 77), pair(never, 0)))
	spoil(one, 8)
	if !slices.Equal(full(tasks), was) || !slices.Equal(two, want) {
		t.Errorf("P0.4: Fill changes %v, or shares %v", full(tasks), two)
	}
	spoil(tasks, pair(9, 9))
	if !slices.Equal(two, want) {
		t.Errorf("P0.4: Fill keeps its tasks: %v", two)
	}
}

func TestItemsAndValidShareNothing(t *testing.T) {
	h := api.Heap{Base: 1, Cap: 3, Arity: 2}
	cells := spare[uint64](77, 0, 3, 5, 1, 4, 2, 3, 3)
	was := full(cells)
	want := []api.Task{pair(3, 3), pair(4, 2), pair(5, 1)}
	one, _ := heap.Items(h, cells)
	two, _ := heap.Items(h, cells)
	heap.Valid(h, cells)
	heap.Items(h, cells[:7])
	heap.Valid(h, cells[:7])
	spoil(one, pair(8, 8))
	if !slices.Equal(full(cells), was) || !slices.Equal(two, want) {
		t.Errorf("P0.4: Items changes %v, or shares %v", full(cells), two)
	}
	spoil(cells, 9)
	if !slices.Equal(two, want) {
		t.Errorf("P0.4: Items keeps its cells: %v", two)
	}
}

// TestOperationsShareNothing: Hold and Reply at every step are the caller's to spoil, and so are the cells behind the call.
func TestOperationsShareNothing(t *testing.T) {
	h := api.Heap{Cap: 4, Arity: 2}
	for kind := range 4 {
		a := filled(t, h, pair(5, 1), pair(4, 2), pair(3, 3))
		if kind == 3 {
			a.Poke(0, never) // a Push that finds no room
		}
		m := &model{h: h, cells: a.Image(), most: 1 << 30}
		o, want := both(t, m, kind%3, pair(1, 9))
		p := newPort(t, a)
		for i := range m.steps + 1 {
			cells := spare(77, a.Image()...)
			was := full(cells)
			held, _ := o.Hold(cells)
			other, _ := o.Hold(cells)
			spoil(held, pair(8, 8))
			spoil(o.Reply().Tasks, pair(8, 8))
			if !slices.Equal(full(cells), was) || !slices.Equal(other, m.holds[i]) {
				t.Errorf("P0.4: Hold changes %v, or shares %v", full(cells), other)
			}
			spoil(cells, 9)
			if !slices.Equal(other, m.holds[i]) {
				t.Errorf("P0.4: Hold keeps its cells: %v", other)
			}
			p.Grant()
			o.Step(p)
		}
		spoil(o.Reply().Tasks, pair(8, 8))
		wantReply(t, o, want.Status, want.Tasks...)
		if !slices.Equal(a.Log(), m.log) {
			t.Errorf("P0.4: a list that was handed out is the operation's own: %v", a.Log())
		}
	}
}

// TestTwoOperationsKnowNothingOfOneAnother: each at a heap of its own, step by step in turns.
func TestTwoOperationsKnowNothingOfOneAnother(t *testing.T) {
	low, high := api.Heap{Cap: 3, Arity: 2}, api.Heap{Base: 7, Cap: 3, Arity: 2}
	l, _ := heap.Fill(low, []api.Task{pair(5, 1), pair(6, 2)})
	k, _ := heap.Fill(high, []api.Task{pair(8, 3), pair(9, 4)})
	a := newArena(t, high, append(l, k...))
	p := newPort(t, a)
	one, two := push(t, low, pair(1, 1)), pop(t, high)
	for !one.Over() || !two.Over() {
		for _, o := range []*heap.Op{one, two} {
			p.Grant()
			o.Step(p)
		}
	}
	wantReply(t, one, api.StDone)
	wantReply(t, two, api.StTask, pair(8, 3))
	if got := a.Image(); !slices.Equal(got, []uint64{3, 1, 1, 6, 2, 5, 1, 1, 9, 4, 9, 4, 0, 0}) {
		t.Errorf("P0.5: %v", got)
	}
}

func TestNilAndEmptyAreAlike(t *testing.T) {
	h := api.Heap{Cap: 2, Arity: 2}
	one, e := heap.Fill(h, nil)
	two, f := heap.Fill(h, []api.Task{})
	if !slices.Equal(one, two) || e != f || e != api.OK {
		t.Errorf("P0.3: Fill: %v, %v", one, two)
	}
	for _, cells := range [][]uint64{nil, {}} {
		if l, e := heap.Items(h, cells); len(l) != 0 || e != api.ErrList {
			t.Errorf("P0.3: Items: %v, %d", l, e)
		}
		if ok, e := heap.Valid(h, cells); ok || e != api.ErrList {
			t.Errorf("P0.3: Valid: %v, %d", ok, e)
		}
		if l, e := pop(t, h).Hold(cells); len(l) != 0 || e != api.ErrList {
			t.Errorf("P0.3: Hold: %v, %d", l, e)
		}
	}
}

// TestNoListsBeyondTheLimits: neither refused shapes nor a size that was written by anyone make one.
func TestNoListsBeyondTheLimits(t *testing.T) {
	small := api.Heap{Cap: 2, Arity: 2}
	o := push(t, small, pair(1, 1))
	var ahead, behind runtime.MemStats
	runtime.ReadMemStats(&ahead)
	for _, h := range []api.Heap{{Cap: 1 << 40, Arity: 2}, {Cap: api.MaxCap + 1, Arity: 2}, {Base: math.MaxInt, Cap: api.MaxCap, Arity: 2}, {Base: api.MaxCells, Cap: api.MaxCap, Arity: 2}} {
		heap.Cells(h)
		heap.Fill(h, nil)
		heap.Items(h, nil)
		heap.Valid(h, nil)
		heap.Push(h, api.Task{})
		heap.Pop(h)
		heap.Peek(h)
	}
	cells := []uint64{never, 1, 1, 2, 2}
	heap.Items(small, cells)
	heap.Valid(small, cells)
	o.Hold(cells)
	runtime.ReadMemStats(&behind)
	if n := behind.TotalAlloc - ahead.TotalAlloc; n > 1<<16 {
		t.Errorf("P0.9: %d bytes are taken", n)
	}
}

// TestZeroOp: one that no call has made is over and does nothing.
func TestZeroOp(t *testing.T) {
	var o heap.Op
	o.Step(nil)
	o.Step(&arena.Port{})
	if l, e := o.Hold(make([]uint64, 9)); !o.Over() || len(l) != 0 || e != api.ErrShape {
		t.Errorf("P0.1: %v, %v, %d", o.Over(), l, e)
	}
}
