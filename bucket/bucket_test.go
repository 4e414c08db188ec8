package bucket_test

import (
	"math"
	"runtime"
	"slices"
	"testing"

	"wayfare/api"
	"wayfare/bucket"
)

const never = api.Never

// misshapen are pools that may not be.
var misshapen = []api.Bucket{
	{},
	{Workers: 0, Slots: 2, Cap: 2, Width: 1},
	{Workers: -1, Slots: 2, Cap: 2, Width: 1},
	{Workers: api.MaxWorkers + 1, Slots: 2, Cap: 2, Width: 1},
	{Workers: math.MaxInt, Slots: 2, Cap: 2, Width: 1},
	{Workers: 2, Slots: 0, Cap: 2, Width: 1},
	{Workers: 2, Slots: -1, Cap: 2, Width: 1},
	{Workers: 2, Slots: api.MaxSlots + 1, Cap: 2, Width: 1},
	{Workers: 2, Slots: math.MinInt, Cap: 2, Width: 1},
	{Workers: 2, Slots: 2, Cap: 0, Width: 1},
	{Workers: 2, Slots: 2, Cap: -1, Width: 1},
	{Workers: 2, Slots: 2, Cap: api.MaxCap + 1, Width: 1},
	{Workers: 2, Slots: 2, Cap: math.MaxInt, Width: 1},
	{Workers: 2, Slots: 2, Cap: 2, Width: 0},
	{Base: -1, Workers: 2, Slots: 2, Cap: 2, Width: 1},
	{Base: math.MinInt, Workers: 2, Slots: 2, Cap: 2, Width: 1},
	{Base: api.MaxCells - 11, Workers: 2, Slots: 2, Cap: 2, Width: 1},
	{Base: api.MaxCells, Workers: 1, Slots: 1, Cap: 1, Width: 1},
	{Base: math.MaxInt, Workers: 2, Slots: 2, Cap: 2, Width: 1},
	{Base: math.MaxInt - 11, Workers: 2, Slots: 2, Cap: 2, Width: 1},
	{Workers: 1, Slots: api.MaxSlots, Cap: 8192, Width: 1},
	{Workers: 1, Slots: api.MaxSlots, Cap: api.MaxCap, Width: 1},
}

func pair(key, load uint64) api.Task { return api.Task{Key: key, Load: load} }

func TestCells(t *testing.T) {
	for _, c := range []struct {
		b    api.Bucket
		want int
	}{
		{api.Bucket{Workers: 2, Slots: 2, Cap: 2, Width: 10}, 12},
		{api.Bucket{Workers: 1, Slots: 1, Cap: 1, Width: never}, 4},
		{api.Bucket{Base: 5, Workers: 64, Slots: 1024, Cap: 3, Width: 1}, 8192},
		{api.Bucket{Workers: 1, Slots: 1024, Cap: 8191, Width: 1}, api.MaxCells},
		{api.Bucket{Workers: 1, Slots: 1, Cap: api.MaxCap, Width: 1}, 2 + 2*api.MaxCap},
		{api.Bucket{Base: api.MaxCells - 12, Workers: 2, Slots: 2, Cap: 2, Width: 1}, 12},
	} {
		if n, e := bucket.Cells(c.b); n != c.want || e != api.OK {
			t.Errorf("U1: Cells(%v) = %d, %d, want %d", c.b, n, e, c.want)
		}
	}
}

// TestShapesThatMayNotBe: whatever else is at fault, the shape is told first.
func TestShapesThatMayNotBe(t *testing.T) {
	for _, b := range misshapen {
		if n, e := bucket.Cells(b); n != 0 || e != api.ErrShape {
			t.Errorf("U1: Cells(%v) = %d, %d", b, n, e)
		}
		if c, e := bucket.Fill(b, []api.Task{pair(never, 0), {}, {}, {}, {}}); len(c) != 0 || e != api.ErrShape {
			t.Errorf("U1: Fill(%v) = %v, %d", b, c, e)
		}
		for _, who := range []int{0, -1, 99} {
			if h, e := bucket.Open(b, who); h != nil || e != api.ErrShape {
				t.Errorf("U2: Open(%v, %d): %d", b, who, e)
			}
		}
		for _, cells := range [][]uint64{nil, make([]uint64, 100)} {
			if l, e := bucket.Held(b, cells, []*bucket.Handle{nil}); len(l) != 0 || e != api.ErrShape {
				t.Errorf("U5: Held(%v) = %v, %d", b, l, e)
			}
		}
	}
}

func TestFill(t *testing.T) {
	b := api.Bucket{Base: 6, Workers: 2, Slots: 2, Cap: 2, Width: 10}
	for _, c := range []struct {
		tasks []api.Task
		want  []uint64
		e     api.Errno
	}{
		{nil, make([]uint64, 12), api.OK},
		{[]api.Task{pair(5, 1), pair(25, 2), pair(17, 3)}, []uint64{0, 2, 5, 1, 25, 2, 0, 1, 17, 3, 0, 0}, api.OK},
		{[]api.Task{pair(9, 1), pair(10, 2), pair(19, 3), pair(20, 4)}, []uint64{0, 2, 9, 1, 20, 4, 0, 2, 10, 2, 19, 3}, api.OK},
		{[]api.Task{{}, {}}, []uint64{0, 2, 0, 0, 0, 0, 0, 0, 0, 0, 0, 0}, api.OK},
		{make([]api.Task, 3), nil, api.ErrFull},
		{[]api.Task{pair(10, 0), pair(30, 0), pair(0, 0), pair(19, 0)}, nil, api.ErrFull},
		{[]api.Task{{}, {}, {}, pair(never, 0)}, nil, api.ErrLabel},
		{[]api.Task{pair(never, 0)}, nil, api.ErrLabel},
	} {
		if got, e := bucket.Fill(b, c.tasks); !slices.Equal(got, c.want) || e != c.e {
			t.Errorf("U1: Fill(%v) = %v, %d, want %v, %d", c.tasks, got, e, c.want, c.e)
		}
	}
}

// TestWidths: which stack is a task's, at the least and the greatest Width.
func TestWidths(t *testing.T) {
	for _, c := range []struct {
		width uint64
		slots int
		key   uint64
		stack int
	}{
		{1, 3, 0, 0},
		{1, 3, 5, 2},
		{1, 3, never - 1, 2}, // 2^64 - 2 modulo 3
		{1, 1024, never - 1, 1022},
		{never, 3, never - 1, 0},
		{1 << 63, 3, 1<<63 - 1, 0},
		{1 << 63, 3, 1 << 63, 1},
		{never - 1, 3, never - 1, 1},
		{10, 1, 99, 0},
	} {
		b := api.Bucket{Workers: 1, Slots: c.slots, Cap: 1, Width: c.width}
		cells, e := bucket.Fill(b, []api.Task{pair(c.key, 7)})
		if e != api.OK || cells[4*c.stack+1] != 1 || cells[4*c.stack+2] != c.key || cells[4*c.stack+3] != 7 {
			t.Errorf("Words: Width %d, Slots %d: the key %d is not on the stack %d: %v, %d", c.width, c.slots, c.key, c.stack, cells, e)
		}
	}
}

func TestOpen(t *testing.T) {
	b := api.Bucket{Workers: 2, Slots: 2, Cap: 2, Width: 1}
	for _, who := range []int{-1, 2, math.MinInt, math.MaxInt} {
		if h, e := bucket.Open(b, who); h != nil || e != api.ErrPlace {
			t.Errorf("U2: Open(%d): %d", who, e)
		}
	}
}

// TestHeldRefuses: cells that are too few, and handles that are not those of all workers in their order.
func TestHeldRefuses(t *testing.T) {
	b := api.Bucket{Base: 2, Workers: 2, Slots: 2, Cap: 2, Width: 10}
	wide := b
	wide.Width = 11
	zero, one := open(t, b, 0), open(t, b, 1)
	for i, c := range []struct {
		cells int
		hs    []*bucket.Handle
		want  api.Errno
	}{
		{0, []*bucket.Handle{zero, one}, api.ErrList},
		{13, []*bucket.Handle{zero, one}, api.ErrList},
		{14, nil, api.ErrList},
		{14, []*bucket.Handle{}, api.ErrList},
		{14, []*bucket.Handle{zero}, api.ErrList},
		{14, []*bucket.Handle{one, zero}, api.ErrList},
		{14, []*bucket.Handle{zero, zero}, api.ErrList},
		{14, []*bucket.Handle{zero, one, zero}, api.ErrList},
		{14, []*bucket.Handle{zero, nil}, api.ErrList},
		{14, []*bucket.Handle{new(bucket.Handle), one}, api.ErrList},
		{14, []*bucket.Handle{zero, open(t, wide, 1)}, api.ErrList},
		{14, []*bucket.Handle{open(t, api.Bucket{Base: 1, Workers: 2, Slots: 2, Cap: 2, Width: 10}, 0), one}, api.ErrList},
		{14, []*bucket.Handle{zero, open(t, api.Bucket{Base: 2, Workers: 3, Slots: 2, Cap: 2, Width: 10}, 1)}, api.ErrList},
		{14, []*bucket.Handle{zero, one}, api.OK},
		{15, []*bucket.Handle{zero, open(t, b, 1)}, api.OK},
	} {
		if l, e := bucket.Held(b, make([]uint64, c.cells), c.hs); len(l) != 0 || e != c.want {
			t.Errorf("U5: case %d: Held = %v, %d, want %d", i, l, e, c.want)
		}
	}
}

// TestHeldOfAnyCells: a size above Cap counts as Cap; locks are not looked at.
func TestHeldOfAnyCells(t *testing.T) {
	b := api.Bucket{Workers: 1, Slots: 2, Cap: 2, Width: 10}
	hs := []*bucket.Handle{open(t, b, 0)}
	for _, c := range []struct {
		one, other uint64
		want       []api.Task
	}{
		{0, 0, nil},
		{1, 0, []api.Task{pair(4, 5)}},
		{0, 2, []api.Task{pair(1, 9), pair(3, 3)}},
		{2, 3, []api.Task{pair(1, 9), pair(3, 3), pair(4, 5), pair(6, 7)}},
		{never, 1, []api.Task{pair(3, 3), pair(4, 5), pair(6, 7)}},
	} {
		if l, e := bucket.Held(b, []uint64{9, c.one, 4, 5, 6, 7, 8, c.other, 3, 3, 1, 9}, hs); e != api.OK || !slices.Equal(l, c.want) {
			t.Errorf("U5: sizes %d, %d: Held = %v, %d, want %v", c.one, c.other, l, e, c.want)
		}
	}
}

// TestNoListsBeyondTheLimits: neither refused shapes nor a size that was written by anyone make one.
func TestNoListsBeyondTheLimits(t *testing.T) {
	small := api.Bucket{Workers: 1, Slots: 1, Cap: 2, Width: 1}
	hs := []*bucket.Handle{open(t, small, 0)}
	var ahead, behind runtime.MemStats
	runtime.ReadMemStats(&ahead)
	for _, b := range misshapen {
		bucket.Cells(b)
		bucket.Fill(b, nil)
		bucket.Open(b, 0)
		bucket.Held(b, nil, nil)
	}
	bucket.Held(small, []uint64{0, never, 1, 1, 2, 2}, hs)
	bucket.Fill(api.Bucket{Workers: 1, Slots: 64, Cap: api.MaxCap, Width: 1}, []api.Task{pair(never, 1)})
	runtime.ReadMemStats(&behind)
	if n := behind.TotalAlloc - ahead.TotalAlloc; n > 1<<16 {
		t.Errorf("P0.9: %d bytes are taken", n)
	}
}
