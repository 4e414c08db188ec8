package lane_test

import (
	"math"
	"math/rand"
	"slices"
	"testing"

	"wayfare/api"
	"wayfare/heap"
	"wayfare/lane"
)

const never = api.Never

// misshapen are lanes that may not be.
var misshapen = []api.Lane{
	{},
	{Cap: 0, Arity: 2},
	{Cap: -1, Arity: 2},
	{Cap: math.MinInt, Arity: 2},
	{Cap: api.MaxCap + 1, Arity: 2},
	{Cap: math.MaxInt, Arity: 2},
	{Cap: 1, Arity: 1},
	{Cap: 1, Arity: 17},
	{Cap: 1, Arity: math.MinInt},
	{Base: -1, Cap: 1, Arity: 2},
	{Base: -2, Cap: 1, Arity: 2},
	{Base: -3, Cap: 1, Arity: 2},
	{Base: math.MinInt, Cap: 1, Arity: 2},
	{Base: api.MaxCells - 4, Cap: 1, Arity: 2},
	{Base: api.MaxCells - 3, Cap: 1, Arity: 2},
	{Base: api.MaxCells, Cap: 1, Arity: 2},
	{Base: api.MaxCells + 1, Cap: 1, Arity: 2},
	{Base: api.MaxCells - 1<<17 - 2, Cap: api.MaxCap, Arity: 2},
	{Base: math.MaxInt, Cap: 1, Arity: 2},
	{Base: math.MaxInt - 1, Cap: 1, Arity: 2},
	{Base: math.MaxInt - 5, Cap: 1, Arity: 2},
}

func pair(key, load uint64) api.Task { return api.Task{Key: key, Load: load} }

// sorted is a sorted copy.
func sorted(l []api.Task) []api.Task {
	out := slices.Clone(l)
	slices.SortFunc(out, func(a, b api.Task) int {
		switch {
		case a == b:
			return 0
		case a.Key < b.Key || a.Key == b.Key && a.Load < b.Load:
			return -1
		}
		return 1
	})
	return out
}

// chance is tasks whose keys are often alike.
func chance(r *rand.Rand, n int) []api.Task {
	out := make([]api.Task, n)
	for i := range out {
		out[i] = pair(uint64(r.Intn(6)), uint64(r.Intn(4)))
		if r.Intn(9) == 0 {
			out[i] = pair(never-1, r.Uint64())
		}
	}
	return out
}

func TestCells(t *testing.T) {
	for _, c := range []struct {
		l    api.Lane
		want int
	}{
		{api.Lane{Cap: 3, Arity: 2}, 9},
		{api.Lane{Cap: 1, Arity: 2}, 5},
		{api.Lane{Base: 7, Cap: 1, Arity: 16}, 5},
		{api.Lane{Cap: api.MaxCap, Arity: 16}, 1<<17 + 3},
		{api.Lane{Base: api.MaxCells - 5, Cap: 1, Arity: 2}, 5},
		{api.Lane{Base: api.MaxCells - 1<<17 - 3, Cap: api.MaxCap, Arity: 2}, 1<<17 + 3},
	} {
		if n, e := lane.Cells(c.l); n != c.want || e != api.OK {
			t.Errorf("N1: Cells(%v) = %d, %d, want %d", c.l, n, e, c.want)
		}
		push(t, c.l, 0, pair(1, 1))
		pop(t, c.l, 0, 1)
	}
}

// TestShapesThatMayNotBe: whatever else is at fault, the shape is told first.
func TestShapesThatMayNotBe(t *testing.T) {
	wrong := []api.Task{pair(never, 0), pair(1, 1), pair(2, 2)}
	for _, l := range misshapen {
		if n, e := lane.Cells(l); n != 0 || e != api.ErrShape {
			t.Errorf("Cells(%v) = %d, %d", l, n, e)
		}
		if c, e := lane.Fill(l, wrong); len(c) != 0 || e != api.ErrShape {
			t.Errorf("Fill(%v) = %v, %d", l, c, e)
		}
		for _, cells := range [][]uint64{nil, make([]uint64, 100)} {
			if x, e := lane.Items(l, cells); len(x) != 0 || e != api.ErrShape {
				t.Errorf("Items(%v) = %v, %d", l, x, e)
			}
		}
		for _, who := range []int{0, -1} {
			for _, tasks := range [][]api.Task{nil, wrong, wrong[1:]} {
				if o, e := lane.Push(l, who, tasks); o != nil || e != api.ErrShape {
					t.Errorf("Push(%v, %d, %v): %d", l, who, tasks, e)
				}
			}
			for _, k := range []int{0, 1, api.MaxBuffer, api.MaxBuffer + 1} {
				if o, e := lane.Pop(l, who, k); o != nil || e != api.ErrShape {
					t.Errorf("Pop(%v, %d, %d): %d", l, who, k, e)
				}
			}
		}
	}
}

func TestErrorsInTheirOrder(t *testing.T) {
	l := api.Lane{Cap: 3, Arity: 2}
	for _, c := range []struct {
		who   int
		tasks []api.Task
		want  api.Errno
	}{
		{-1, nil, api.ErrPlace},
		{-1, []api.Task{}, api.ErrPlace},
		{-1, []api.Task{pair(never, 0)}, api.ErrPlace},
		{math.MinInt, []api.Task{pair(1, 0)}, api.ErrPlace},
		{0, nil, api.ErrList},
		{0, []api.Task{}, api.ErrList},
		{0, []api.Task{pair(never, 0)}, api.ErrLabel},
		{math.MaxInt, []api.Task{{}, {}, {}, {}, pair(never, 0)}, api.ErrLabel},
	} {
		if o, e := lane.Push(l, c.who, c.tasks); o != nil || e != c.want {
			t.Errorf("Push(%d, %v): %d, want %d", c.who, c.tasks, e, c.want)
		}
	}
	for _, c := range []struct {
		who, k int
		want   api.Errno
	}{
		{0, 0, api.ErrShape},
		{0, -1, api.ErrShape},
		{0, math.MinInt, api.ErrShape},
		{0, api.MaxBuffer + 1, api.ErrShape},
		{0, math.MaxInt, api.ErrShape},
		{-1, 0, api.ErrShape},
		{-1, api.MaxBuffer + 1, api.ErrShape},
		{-1, 1, api.ErrPlace},
		{math.MinInt, api.MaxBuffer, api.ErrPlace},
		{0, 1, api.OK},
		{math.MaxInt, api.MaxBuffer, api.OK},
	} {
		if o, e := lane.Pop(l, c.who, c.k); (o != nil) != (c.want == api.OK) || e != c.want {
			t.Errorf("Pop(%d, %d): %d, want %d", c.who, c.k, e, c.want)
		}
	}
}

func TestFill(t *testing.T) {
	l := api.Lane{Base: 4, Cap: 3, Arity: 2}
	for _, c := range []struct {
		tasks []api.Task
		want  []uint64
		e     api.Errno
	}{
		{nil, []uint64{0, never, 0, 0, 0, 0, 0, 0, 0}, api.OK},
		{[]api.Task{}, []uint64{0, never, 0, 0, 0, 0, 0, 0, 0}, api.OK},
		{[]api.Task{pair(7, 1), pair(4, 2)}, []uint64{0, 4, 2, 4, 2, 7, 1, 0, 0}, api.OK},
		{[]api.Task{{}}, []uint64{0, 0, 1, 0, 0, 0, 0, 0, 0}, api.OK},
		{[]api.Task{pair(never-1, never)}, []uint64{0, never - 1, 1, never - 1, never, 0, 0, 0, 0}, api.OK},
		{make([]api.Task, 4), nil, api.ErrFull},
		{[]api.Task{{}, {}, {}, pair(never, 0)}, nil, api.ErrLabel},
		{[]api.Task{pair(never, 0)}, nil, api.ErrLabel},
	} {
		if got, e := lane.Fill(l, c.tasks); !slices.Equal(got, c.want) || e != c.e {
			t.Errorf("N1: Fill(%v) = %v, %d, want %v, %d", c.tasks, got, e, c.want, c.e)
		}
	}
}

// TestFillIsHeapFill: the heap's part is what heap.Fill tells, and what one Push behind the other leaves.
func TestFillIsHeapFill(t *testing.T) {
	r := rand.New(rand.NewSource(1))
	for range 200 {
		l := api.Lane{Base: r.Intn(4), Cap: 1 + r.Intn(30), Arity: 2 + r.Intn(15)}
		tasks := chance(r, r.Intn(l.Cap+1))
		cells, e := lane.Fill(l, tasks)
		inHeap, _ := heap.Fill(api.Heap{Base: l.Base + 2, Cap: l.Cap, Arity: l.Arity}, tasks)
		if e != api.OK || !slices.Equal(cells[2:], inHeap) {
			t.Fatalf("N1: Fill = %v, %d, want %v", cells, e, inHeap)
		}
		a := filled(t, l)
		for _, x := range tasks {
			play(t, a, push(t, l, 0, x))
		}
		if got := a.Image()[l.Base:]; !slices.Equal(cells, got) {
			t.Fatalf("N1: Fill = %v, pushes leave %v", cells, got)
		}
	}
}

func TestItems(t *testing.T) {
	l := api.Lane{Base: 1, Cap: 2, Arity: 2}
	want := []api.Task{pair(3, 3), pair(5, 1)}
	for _, c := range []struct {
		cells []uint64
		want  []api.Task
		e     api.Errno
	}{
		{[]uint64{9, 0, 3, 2, 5, 1, 3, 3}, want, api.OK},
		{[]uint64{9, 6, never, 2, 5, 1, 3, 3}, want, api.OK}, // whatever the lock and the top hold
		{[]uint64{9, never, 8, 2, 5, 1, 3, 3, 4, 4}, want, api.OK},
		{[]uint64{9, 0, 3, never, 5, 1, 3, 3}, want, api.OK},
		{[]uint64{9, 0, 3, 0, 5, 1, 3, 3}, nil, api.OK},
		{[]uint64{9, 0, 3, 2, 5, 1, 3}, nil, api.ErrList},
		{[]uint64{9}, nil, api.ErrList},
		{nil, nil, api.ErrList},
		{[]uint64{}, nil, api.ErrList},
	} {
		if got, e := lane.Items(l, c.cells); !slices.Equal(got, c.want) || e != c.e {
			t.Errorf("N1: Items of %v = %v, %d, want %v, %d", c.cells, got, e, c.want, c.e)
		}
	}
}
