package lane_test

import (
	"math"
	"runtime"
	"slices"
	"testing"

	"wayfare/api"
	"wayfare/lane"
)

// spare makes a list whose spare room is filled with one thing.
func spare[T any](fill T, list ...T) []T {
	room := append(slices.Clone(list), fill, fill, fill)
	return room[:len(list)]
}

// full is a list with its spare room laid open.
func full[T any](l []T) []T { return slices.Clone(l[:cap(l)]) }

// spoil writes over a list and its spare room.
func spoil[T any](l []T, with T) {
	l = l[:cap(l)]
	for i := range l {
		l[i] = with
	}
}

func TestFillAndItemsShareNothing(t *testing.T) {
	l := api.Lane{Cap: 3, Arity: 2}
	tasks := spare(pair(77, 77), pair(7, 1), pair(4, 2))
	was, want := full(tasks), []uint64{0, 4, 2, 4, 2, 7, 1, 0, 0}
	one, _ := lane.Fill(l, tasks)
	two, _ := lane.Fill(l, tasks)
	spoil(one, 8)
	if !slices.Equal(full(tasks), was) || !slices.Equal(two, want) {
		t.Errorf("P0.4: Fill changes %v, or shares %v", full(tasks), two)
	}
	spoil(tasks, pair(9, 9))
	if !slices.Equal(two, want) {
		t.Errorf("P0.4: Fill keeps its tasks: %v", two)
	}
	cells := spare(77, two...)
	first, _ := lane.Items(l, cells)
	second, _ := lane.Items(l, cells)
	spoil(first, pair(8, 8))
	if !slices.Equal(full(cells), full(spare(77, want...))) {
		t.Errorf("P0.4: Items changes %v", full(cells))
	}
	spoil(cells, 9)
	if !slices.Equal(second, []api.Task{pair(4, 2), pair(7, 1)}) {
		t.Errorf("P0.4: Items shares or keeps: %v", second)
	}
}

// TestPushKeepsItsOwn: the tasks are the caller's again as soon as the call has answered.
func TestPushKeepsItsOwn(t *testing.T) {
	l := api.Lane{Cap: 2, Arity: 2}
	want := []api.Task{pair(3, 3), pair(2, 2), pair(1, 1), pair(0, 9)}
	for _, busy := range []bool{false, true} {
		a := filled(t, l)
		if busy {
			a.Poke(0, 5)
		}
		tasks := spare(pair(77, 77), want...)
		was := full(tasks)
		o := push(t, l, 0, tasks...)
		lane.Push(l, -1, tasks)
		if !slices.Equal(full(tasks), was) {
			t.Errorf("P0.4: Push changes %v", full(tasks))
		}
		spoil(tasks, pair(9, 9))
		play(t, a, o)
		left, status := want[2:], api.StFull
		if busy {
			left, status = want, api.StBusy
		}
		wantReply(t, o, status, left...)
		for i, x := range tasks[:cap(tasks)] {
			if x != pair(9, 9) {
				t.Errorf("P0.4: an operation writes into its caller's list, at %d: %v", i, x)
			}
		}
		r := o.Reply()
		spoil(r.Tasks, pair(8, 8))
		wantReply(t, o, status, left...)
	}
}

// TestHoldSharesNothing: at every step, what is told is the caller's to spoil, and so are the cells.
func TestHoldSharesNothing(t *testing.T) {
	l := api.Lane{Cap: 4, Arity: 2}
	first := []api.Task{pair(5, 1), pair(4, 2), pair(3, 3)}
	more := []api.Task{pair(2, 7), pair(1, 8), pair(0, 9)}
	all := []*lane.Op{pop(t, l, 0, 3), pop(t, l, 0, api.MaxBuffer), push(t, l, 0, more...)}
	for i, o := range all {
		want, a := sorted(first), filled(t, l, first...)
		if i == 2 {
			want = sorted(append(want, more...))
		}
		for step(t, a, o); !o.Over(); step(t, a, o) {
			cells := spare(77, a.Image()...)
			was := full(cells)
			one, _ := o.Hold(cells)
			two, _ := o.Hold(cells)
			spoil(one, pair(8, 8))
			spoil(o.Reply().Tasks, pair(8, 8))
			if !slices.Equal(full(cells), was) || !slices.Equal(two, want) {
				t.Fatalf("P0.4: Hold changes %v, or shares %v", full(cells), two)
			}
			spoil(cells, 9)
			if !slices.Equal(two, want) {
				t.Fatalf("P0.4: Hold keeps its cells: %v", two)
			}
		}
		spoil(o.Reply().Tasks, pair(8, 8))
	}
	wantReply(t, all[0], api.StTask, sorted(first)...)
	wantReply(t, all[1], api.StTask, sorted(first)...)
	wantReply(t, all[2], api.StFull, more[1:]...)
}

// TestNoListsBeyondTheLimits: neither refused shapes nor a size that was written by anyone make one.
func TestNoListsBeyondTheLimits(t *testing.T) {
	small := api.Lane{Cap: 2, Arity: 2}
	var ahead, behind runtime.MemStats
	runtime.ReadMemStats(&ahead)
	for _, l := range []api.Lane{{Cap: 1 << 40, Arity: 2}, {Cap: api.MaxCap + 1, Arity: 2}, {Base: math.MaxInt, Cap: api.MaxCap, Arity: 2}, {Base: api.MaxCells, Cap: api.MaxCap, Arity: 2}} {
		lane.Cells(l)
		lane.Fill(l, nil)
		lane.Items(l, nil)
		lane.Push(l, 0, []api.Task{{}})
		lane.Pop(l, 0, 1)
	}
	lane.Pop(small, 0, math.MaxInt)
	lane.Items(small, []uint64{0, 0, never, 1, 1, 2, 2})
	runtime.ReadMemStats(&behind)
	if n := behind.TotalAlloc - ahead.TotalAlloc; n > 1<<16 {
		t.Errorf("P0.9: %d bytes are taken", n)
	}
}
