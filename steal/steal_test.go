package steal_test

import (
	"math"
	"runtime"
	"slices"
	"testing"

	"wayfare/api"
	"wayfare/steal"
)

const never = api.Never

// misshapen are pools that may not be.
var misshapen = []api.Steal{
	{},
	{Workers: 0, Cap: 2, Tries: 1},
	{Workers: -1, Cap: 2, Tries: 1},
	{Workers: api.MaxWorkers + 1, Cap: 2, Tries: 1},
	{Workers: math.MaxInt, Cap: 2, Tries: 1},
	{Workers: 2, Cap: 0, Tries: 1},
	{Workers: 2, Cap: -1, Tries: 1},
	{Workers: 2, Cap: api.MaxCap + 1, Tries: 1},
	{Workers: 2, Cap: math.MinInt, Tries: 1},
	{Workers: 2, Cap: math.MaxInt, Tries: 1},
	{Workers: 2, Cap: 2, Tries: 0},
	{Workers: 2, Cap: 2, Tries: -1},
	{Workers: 2, Cap: 2, Tries: api.MaxTries + 1},
	{Base: -1, Workers: 2, Cap: 2, Tries: 1},
	{Base: math.MinInt, Workers: 2, Cap: 2, Tries: 1},
	{Base: api.MaxCells - 11, Workers: 2, Cap: 2, Tries: 1},
	{Base: api.MaxCells, Workers: 1, Cap: 1, Tries: 1},
	{Base: math.MaxInt, Workers: 2, Cap: 2, Tries: 1},
	{Base: math.MaxInt - 11, Workers: 2, Cap: 2, Tries: 1},
	{Base: api.MaxCells - 64*(2+2*api.MaxCap) + 1, Workers: 64, Cap: api.MaxCap, Tries: 1},
}

func pair(key, load uint64) api.Task { return api.Task{Key: key, Load: load} }

func TestCells(t *testing.T) {
	for _, c := range []struct {
		s    api.Steal
		want int
	}{
		{api.Steal{Workers: 2, Cap: 2, Tries: 1}, 12},
		{api.Steal{Workers: 1, Cap: 1, Tries: 64}, 4},
		{api.Steal{Base: 5, Workers: 64, Cap: 3, Tries: 2}, 512},
		{api.Steal{Workers: 64, Cap: api.MaxCap, Tries: 1}, 64 * (2 + 2*api.MaxCap)},
		{api.Steal{Base: api.MaxCells - 12, Workers: 2, Cap: 2, Tries: 1}, 12},
		{api.Steal{Base: api.MaxCells - 64*(2+2*api.MaxCap), Workers: 64, Cap: api.MaxCap, Tries: 1}, 64 * (2 + 2*api.MaxCap)},
	} {
		if n, e := steal.Cells(c.s); n != c.want || e != api.OK {
			t.Errorf("K1: Cells(%v) = %d, %d, want %d", c.s, n, e, c.want)
		}
	}
}

// TestShapesThatMayNotBe: whatever else is at fault, the shape is told first.
func TestShapesThatMayNotBe(t *testing.T) {
	for _, s := range misshapen {
		if n, e := steal.Cells(s); n != 0 || e != api.ErrShape {
			t.Errorf("K1: Cells(%v) = %d, %d", s, n, e)
		}
		if c, e := steal.Fill(s, []api.Task{pair(never, 0), {}, {}, {}, {}}); len(c) != 0 || e != api.ErrShape {
			t.Errorf("K1: Fill(%v) = %v, %d", s, c, e)
		}
		for _, who := range []int{0, -1, 99} {
			if h, e := steal.Open(s, who, nil); h != nil || e != api.ErrShape {
				t.Errorf("K2: Open(%v, %d): %d", s, who, e)
			}
		}
		for _, cells := range [][]uint64{nil, make([]uint64, 100)} {
			if l, e := steal.Held(s, cells, []*steal.Handle{nil}); len(l) != 0 || e != api.ErrShape {
				t.Errorf("K6: Held(%v) = %v, %d", s, l, e)
			}
		}
	}
}

func TestFill(t *testing.T) {
	s := api.Steal{Base: 6, Workers: 2, Cap: 2, Tries: 1}
	for _, c := range []struct {
		tasks []api.Task
		want  []uint64
		e     api.Errno
	}{
		{nil, []uint64{1, 1, 0, 0, 0, 0, 1, 1, 0, 0, 0, 0}, api.OK},
		{[]api.Task{pair(5, 1)}, []uint64{1, 2, 0, 0, 5, 1, 1, 1, 0, 0, 0, 0}, api.OK},
		{[]api.Task{pair(5, 1), pair(6, 2), pair(7, 3)}, []uint64{1, 3, 7, 3, 5, 1, 1, 2, 0, 0, 6, 2}, api.OK},
		{[]api.Task{pair(5, 1), pair(6, 2), pair(7, 3), pair(never-1, never)}, []uint64{1, 3, 7, 3, 5, 1, 1, 3, never - 1, never, 6, 2}, api.OK},
		{make([]api.Task, 5), nil, api.ErrFull},
		{[]api.Task{{}, {}, {}, {}, {}, pair(never, 0)}, nil, api.ErrLabel},
		{[]api.Task{pair(never, 0)}, nil, api.ErrLabel},
	} {
		if got, e := steal.Fill(s, c.tasks); !slices.Equal(got, c.want) || e != c.e {
			t.Errorf("K1: Fill(%v) = %v, %d, want %v, %d", c.tasks, got, e, c.want, c.e)
		}
	}
	one := api.Steal{Workers: 1, Cap: 1, Tries: 1}
	if got, e := steal.Fill(one, []api.Task{pair(4, 9)}); !slices.Equal(got, []uint64{1, 2, 4, 9}) || e != api.OK {
		t.Errorf("K1: of one worker, one slot: %v, %d", got, e)
	}
	if got, e := steal.Fill(one, make([]api.Task, 2)); len(got) != 0 || e != api.ErrFull {
		t.Errorf("K1: two in one slot: %v, %d", got, e)
	}
	three := api.Steal{Workers: 3, Cap: 1, Tries: 1}
	if got, e := steal.Fill(three, make([]api.Task, 3)); len(got) != 12 || e != api.OK {
		t.Errorf("K1: one in each: %v, %d", got, e)
	}
}

func TestOpen(t *testing.T) {
	s := api.Steal{Workers: 2, Cap: 2, Tries: 1}
	for _, who := range []int{-1, 2, math.MinInt, math.MaxInt} {
		if h, e := steal.Open(s, who, nil); h != nil || e != api.ErrPlace {
			t.Errorf("K2: Open(%d): %d", who, e)
		}
	}
}

// TestHeldRefuses: cells that are too few, and handles that are not those of all workers in their order.
func TestHeldRefuses(t *testing.T) {
	s := api.Steal{Base: 2, Workers: 2, Cap: 2, Tries: 1}
	zero, one := open(t, s, 0), open(t, s, 1)
	for i, c := range []struct {
		cells int
		hs    []*steal.Handle
		want  api.Errno
	}{
		{0, []*steal.Handle{zero, one}, api.ErrList},
		{13, []*steal.Handle{zero, one}, api.ErrList},
		{14, nil, api.ErrList},
		{14, []*steal.Handle{}, api.ErrList},
		{14, []*steal.Handle{zero}, api.ErrList},
		{14, []*steal.Handle{one, zero}, api.ErrList},
		{14, []*steal.Handle{zero, zero}, api.ErrList},
		{14, []*steal.Handle{zero, one, zero}, api.ErrList},
		{14, []*steal.Handle{zero, nil}, api.ErrList},
		{14, []*steal.Handle{new(steal.Handle), one}, api.ErrList},
		{14, []*steal.Handle{zero, open(t, api.Steal{Base: 2, Workers: 2, Cap: 2, Tries: 2}, 1)}, api.ErrList},
		{14, []*steal.Handle{open(t, api.Steal{Base: 1, Workers: 2, Cap: 2, Tries: 1}, 0), one}, api.ErrList},
		{14, []*steal.Handle{zero, open(t, api.Steal{Base: 2, Workers: 3, Cap: 2, Tries: 1}, 1)}, api.ErrList},
		{14, []*steal.Handle{zero, one}, api.OK},
		{15, []*steal.Handle{zero, open(t, s, 1)}, api.OK},
	} {
		if l, e := steal.Held(s, make([]uint64, c.cells), c.hs); len(l) != 0 || e != c.want {
			t.Errorf("K6: case %d: Held = %v, %d, want %d", i, l, e, c.want)
		}
	}
}

// TestHeldOfAnyCells: a deque has what its top and its bottom tell, and no more than it has slots.
func TestHeldOfAnyCells(t *testing.T) {
	s := api.Steal{Workers: 1, Cap: 2, Tries: 1}
	hs := []*steal.Handle{open(t, s, 0)}
	even, odd := pair(4, 5), pair(6, 7)
	for _, c := range []struct {
		top, bottom uint64
		want        []api.Task
	}{
		{1, 1, nil},
		{1, 2, []api.Task{odd}},
		{2, 3, []api.Task{even}},
		{1, 3, []api.Task{even, odd}},
		{1, 9, []api.Task{even, odd}},
		{0, never, []api.Task{even, odd}},
		{never - 1, never, []api.Task{even}},
		{3, 2, nil},
		{never, 0, nil},
		{1, 0, nil},
	} {
		if l, e := steal.Held(s, []uint64{c.top, c.bottom, 4, 5, 6, 7}, hs); e != api.OK || !slices.Equal(l, c.want) {
			t.Errorf("K6: from %d up to %d: Held = %v, %d, want %v", c.top, c.bottom, l, e, c.want)
		}
	}
}

// TestNoListsBeyondTheLimits: neither refused shapes nor a bottom that was written by anyone make one.
func TestNoListsBeyondTheLimits(t *testing.T) {
	small := api.Steal{Workers: 1, Cap: 2, Tries: 1}
	hs := []*steal.Handle{open(t, small, 0)}
	var ahead, behind runtime.MemStats
	runtime.ReadMemStats(&ahead)
	for _, s := range misshapen {
		steal.Cells(s)
		steal.Fill(s, nil)
		steal.Open(s, 0, nil)
		steal.Held(s, nil, nil)
	}
	steal.Held(small, []uint64{0, never, 1, 1, 2, 2}, hs)
	steal.Fill(api.Steal{Workers: 64, Cap: api.MaxCap, Tries: 1}, []api.Task{pair(never, 1)})
	runtime.ReadMemStats(&behind)
	if n := behind.TotalAlloc - ahead.TotalAlloc; n > 1<<16 {
		t.Errorf("P0.9: %d bytes are taken", n)
	}
}
