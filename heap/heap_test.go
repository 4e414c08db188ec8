package heap_test

import (
	"math"
	"math/rand"
	"slices"
	"testing"

	"wayfare/api"
	"wayfare/heap"
)

const never = api.Never

// shapes are heaps that may be, at the edges and within.
var shapes = []struct {
	h     api.Heap
	cells int
}{
	{api.Heap{Cap: 1, Arity: 2}, 3},
	{api.Heap{Cap: 1, Arity: 16}, 3},
	{api.Heap{Base: 10, Cap: 3, Arity: 2}, 7},
	{api.Heap{Base: 5, Cap: 40, Arity: 3}, 81},
	{api.Heap{Cap: api.MaxCap, Arity: api.MaxArity}, 1<<17 + 1},
	{api.Heap{Base: api.MaxCells - 3, Cap: 1, Arity: 2}, 3},
	{api.Heap{Base: api.MaxCells - 1<<17 - 1, Cap: api.MaxCap, Arity: 2}, 1<<17 + 1},
}

// misshapen are heaps that may not be.
var misshapen = []api.Heap{
	{},
	{Cap: 0, Arity: 2},
	{Cap: -1, Arity: 2},
	{Cap: math.MinInt, Arity: 2},
	{Cap: api.MaxCap + 1, Arity: 2},
	{Cap: api.MaxCells, Arity: 2},
	{Cap: math.MaxInt, Arity: 2},
	{Cap: math.MaxInt/2 + 1, Arity: 2},
	{Cap: 1, Arity: 1},
	{Cap: 1, Arity: 0},
	{Cap: 1, Arity: -2},
	{Cap: 1, Arity: 17},
	{Cap: 1, Arity: math.MaxInt},
	{Base: -1, Cap: 1, Arity: 2},
	{Base: math.MinInt, Cap: 1, Arity: 2},
	{Base: api.MaxCells - 2, Cap: 1, Arity: 2},
	{Base: api.MaxCells, Cap: 1, Arity: 2},
	{Base: api.MaxCells + 1, Cap: 1, Arity: 2},
	{Base: api.MaxCells - 1<<17, Cap: api.MaxCap, Arity: 2},
	{Base: math.MaxInt, Cap: 1, Arity: 2},
	{Base: math.MaxInt - 2, Cap: 1, Arity: 2},
}

func pair(key, load uint64) api.Task { return api.Task{Key: key, Load: load} }

// sorted is a sorted copy.
func sorted(l []api.Task) []api.Task {
	out := slices.Clone(l)
	slices.SortFunc(out, func(a, b api.Task) int {
		switch {
		case a == b:
			return 0
		case a.Key < b.Key || a.Key == b.Key && a.Load < b.Load:
			return -1
		}
		return 1
	})
	return out
}

// chance is tasks whose keys are often alike.
func chance(r *rand.Rand, n int) []api.Task {
	out := make([]api.Task, n)
	for i := range out {
		out[i] = pair(uint64(r.Intn(6)), uint64(r.Intn(4)))
		if r.Intn(9) == 0 {
			out[i] = pair(never-1, r.Uint64())
		}
	}
	return out
}

func TestCells(t *testing.T) {
	for _, c := range shapes {
		if n, e := heap.Cells(c.h); n != c.cells || e != api.OK {
			t.Errorf("H1: Cells(%v) = %d, %d, want %d", c.h, n, e, c.cells)
		}
	}
}

// TestShapesThatMayNotBe: whatever else is at fault, the shape is told first.
func TestShapesThatMayNotBe(t *testing.T) {
	wrong := []api.Task{pair(never, 0), pair(1, 1), pair(2, 2)}
	for _, h := range misshapen {
		if n, e := heap.Cells(h); n != 0 || e != api.ErrShape {
			t.Errorf("Cells(%v) = %d, %d", h, n, e)
		}
		if l, e := heap.Fill(h, wrong); len(l) != 0 || e != api.ErrShape {
			t.Errorf("Fill(%v) = %v, %d", h, l, e)
		}
		for _, cells := range [][]uint64{nil, make([]uint64, 100)} {
			if l, e := heap.Items(h, cells); len(l) != 0 || e != api.ErrShape {
				t.Errorf("Items(%v) = %v, %d", h, l, e)
			}
			if ok, e := heap.Valid(h, cells); ok || e != api.ErrShape {
				t.Errorf("Valid(%v) = %v, %d", h, ok, e)
			}
		}
		for _, x := range wrong {
			if o, e := heap.Push(h, x); o != nil || e != api.ErrShape {
				t.Errorf("Push(%v, %v): %d", h, x, e)
			}
		}
		if o, e := heap.Pop(h); o != nil || e != api.ErrShape {
			t.Errorf("Pop(%v): %d", h, e)
		}
		if o, e := heap.Peek(h); o != nil || e != api.ErrShape {
			t.Errorf("Peek(%v): %d", h, e)
		}
	}
}

func TestFill(t *testing.T) {
	h := api.Heap{Base: 9, Cap: 3, Arity: 2}
	for _, c := range []struct {
		tasks []api.Task
		want  []uint64
		e     api.Errno
	}{
		{nil, []uint64{0, 0, 0, 0, 0, 0, 0}, api.OK},
		{[]api.Task{}, []uint64{0, 0, 0, 0, 0, 0, 0}, api.OK},
		{[]api.Task{pair(5, 1)}, []uint64{1, 5, 1, 0, 0, 0, 0}, api.OK},
		{[]api.Task{pair(5, 1), pair(3, 2), pair(3, 9)}, []uint64{3, 3, 2, 5, 1, 3, 9}, api.OK},
		{[]api.Task{pair(3, 9), pair(3, 2), pair(3, 1)}, []uint64{3, 3, 9, 3, 2, 3, 1}, api.OK},
		{[]api.Task{pair(2, 0), pair(1, 0), pair(0, 7)}, []uint64{3, 0, 7, 2, 0, 1, 0}, api.OK},
		{[]api.Task{pair(never-1, never)}, []uint64{1, never - 1, never, 0, 0, 0, 0}, api.OK},
		{make([]api.Task, 4), nil, api.ErrFull},
		{[]api.Task{{}, {}, {}, pair(never, 0)}, nil, api.ErrLabel},
		{[]api.Task{pair(never, 0), {}, {}, {}}, nil, api.ErrLabel},
		{[]api.Task{pair(never, 0)}, nil, api.ErrLabel},
	} {
		if l, e := heap.Fill(h, c.tasks); !slices.Equal(l, c.want) || e != c.e {
			t.Errorf("H2: Fill(%v) = %v, %d, want %v, %d", c.tasks, l, e, c.want, c.e)
		}
	}
}

// TestFillIsPushes: the cells are those behind pushing the tasks step by step.
func TestFillIsPushes(t *testing.T) {
	r := rand.New(rand.NewSource(2))
	for range 300 {
		h := api.Heap{Base: r.Intn(4), Cap: 1 + r.Intn(40), Arity: 2 + r.Intn(15)}
		tasks := chance(r, r.Intn(h.Cap+1))
		a := newArena(t, h, nil)
		for _, x := range tasks {
			play(t, a, push(t, h, x))
		}
		l, e := heap.Fill(h, tasks)
		if e != api.OK || !slices.Equal(l, a.Image()[h.Base:]) {
			t.Fatalf("H2: Fill(%v, %v) = %v, %d, want %v", h, tasks, l, e, a.Image()[h.Base:])
		}
	}
}

func TestFillOfTheGreatest(t *testing.T) {
	for _, arity := range []int{2, api.MaxArity} {
		h := api.Heap{Cap: api.MaxCap, Arity: arity}
		tasks := make([]api.Task, h.Cap)
		for i := range tasks {
			tasks[i].Key = uint64(h.Cap - i)
		}
		l, e := heap.Fill(h, tasks)
		if ok, f := heap.Valid(h, l); e != api.OK || f != api.OK || !ok || l[0] != api.MaxCap || l[1] != 1 {
			t.Errorf("H2: a full heap of MaxCap: %d, %v, %d", e, ok, f)
		}
		if items, _ := heap.Items(h, l); !slices.Equal(items, sorted(tasks)) {
			t.Error("H3: a full heap of MaxCap")
		}
		if l, e := heap.Fill(h, append(tasks, api.Task{})); len(l) != 0 || e != api.ErrFull {
			t.Errorf("H2: one more than MaxCap: %d", e)
		}
	}
}

func TestItems(t *testing.T) {
	h := api.Heap{Base: 2, Cap: 3, Arity: 2}
	ahead, behind := []uint64{8, 8}, []uint64{8, 8, 8}
	for _, c := range []struct {
		cells []uint64
		want  []api.Task
		e     api.Errno
	}{
		{[]uint64{0, 1, 1, 2, 2, 3, 3}, nil, api.OK},
		{[]uint64{1, 9, 1, 2, 2, 3, 3}, []api.Task{pair(9, 1)}, api.OK},
		{[]uint64{3, 5, 1, 3, 9, 3, 2}, []api.Task{pair(3, 2), pair(3, 9), pair(5, 1)}, api.OK},
		{[]uint64{4, 5, 1, 3, 9, 3, 2}, []api.Task{pair(3, 2), pair(3, 9), pair(5, 1)}, api.OK},
		{[]uint64{never, 1, 1, 1, 1, never, 0}, []api.Task{pair(1, 1), pair(1, 1), pair(never, 0)}, api.OK},
		{[]uint64{1 << 63, 0, 0, 0, 0, 0, 0}, make([]api.Task, 3), api.OK},
		{[]uint64{1, 5, 1, 3, 9, 3}, nil, api.ErrList},
		{nil, nil, api.ErrList},
	} {
		cells := append(slices.Clone(ahead), c.cells...)
		if l, e := heap.Items(h, cells); !slices.Equal(l, c.want) || e != c.e {
			t.Errorf("H3: Items of %v = %v, %d, want %v, %d", c.cells, l, e, c.want, c.e)
		}
		if c.e == api.OK {
			if l, e := heap.Items(h, append(cells, behind...)); !slices.Equal(l, c.want) || e != c.e {
				t.Errorf("H3: Items of %v with cells behind = %v, %d", c.cells, l, e)
			}
		}
	}
	if l, e := heap.Items(h, nil); len(l) != 0 || e != api.ErrList {
		t.Errorf("H3: Items of no cells: %v, %d", l, e)
	}
	last := api.Heap{Base: api.MaxCells - 3, Cap: 1, Arity: 2}
	cells := make([]uint64, api.MaxCells)
	cells[api.MaxCells-3], cells[api.MaxCells-2], cells[api.MaxCells-1] = 1, 4, 5
	if l, e := heap.Items(last, cells); !slices.Equal(l, []api.Task{pair(4, 5)}) || e != api.OK {
		t.Errorf("H3: Items in the last cells: %v, %d", l, e)
	}
	if l, e := heap.Items(last, cells[:api.MaxCells-1]); len(l) != 0 || e != api.ErrList {
		t.Errorf("H3: Items without the last cell: %v, %d", l, e)
	}
}

func TestValid(t *testing.T) {
	for _, c := range []struct {
		arity int
		size  uint64
		keys  []uint64
		want  bool
	}{
		{2, 0, []uint64{9, 1, 1, 1}, true},
		{2, 1, []uint64{9, 1, 1, 1}, true},
		{2, 2, []uint64{9, 1, 1, 1}, false},
		{2, 4, []uint64{1, 1, 1, 1}, true},
		{2, 4, []uint64{1, 3, 2, 2}, false}, // the place 3 is below the place 1
		{2, 3, []uint64{1, 3, 2, 2}, true},
		{2, 4, []uint64{1, 2, 3, 2}, true},
		{3, 4, []uint64{1, 3, 2, 2}, true}, // the place 3 is below the place 0
		{3, 4, []uint64{1, 3, 2, 0}, false},
		{2, 5, []uint64{1, 1, 1, 0}, false},
		{2, never, []uint64{1, 1, 1, 0}, false},
		{2, never, []uint64{0, never, 1, never}, true},
	} {
		h := api.Heap{Base: 1, Cap: 4, Arity: c.arity}
		cells := []uint64{77, c.size}
		for _, k := range c.keys {
			cells = append(cells, k, 0)
		}
		if ok, e := heap.Valid(h, cells); ok != c.want || e != api.OK {
			t.Errorf("H3: Valid of %d %v, arity %d: %v, %d", c.size, c.keys, c.arity, ok, e)
		}
		if ok, e := heap.Valid(h, append(cells, 0, 0, 0)); ok != c.want || e != api.OK {
			t.Errorf("H3: Valid with cells behind: %v, %d", ok, e)
		}
		if ok, e := heap.Valid(h, cells[:9]); ok || e != api.ErrList {
			t.Errorf("H3: Valid of cells that end too early: %v, %d", ok, e)
		}
	}
}
