package ring_test

import (
	"math"
	"runtime"
	"slices"
	"testing"

	"wayfare/api"
	"wayfare/ring"
)

const never = api.Never

// misshapen are rings that may not be.
var misshapen = []api.Ring{
	{},
	{Cap: 1},
	{Cap: -1},
	{Cap: math.MinInt},
	{Cap: api.MaxCap + 1},
	{Cap: math.MaxInt},
	{Base: -1, Cap: 2},
	{Base: math.MinInt, Cap: 2},
	{Base: api.MaxCells - 7, Cap: 2},
	{Base: api.MaxCells, Cap: 2},
	{Base: api.MaxCells - 1 - 3*api.MaxCap, Cap: api.MaxCap},
	{Base: math.MaxInt, Cap: 2},
	{Base: math.MaxInt - 7, Cap: 2},
}

func pair(key, load uint64) api.Task { return api.Task{Key: key, Load: load} }

func TestCells(t *testing.T) {
	for _, c := range []struct {
		r    api.Ring
		want int
	}{
		{api.Ring{Cap: 2}, 8},
		{api.Ring{Base: 9, Cap: 5}, 17},
		{api.Ring{Cap: api.MaxCap}, 2 + 3<<16},
		{api.Ring{Base: api.MaxCells - 8, Cap: 2}, 8},
		{api.Ring{Base: api.MaxCells - 2 - 3*api.MaxCap, Cap: api.MaxCap}, 2 + 3<<16},
	} {
		if n, e := ring.Cells(c.r); n != c.want || e != api.OK {
			t.Errorf("N2: Cells(%v) = %d, %d, want %d", c.r, n, e, c.want)
		}
		open(t, c.r)
	}
}

// TestShapesThatMayNotBe: whatever else is at fault, the shape is told first.
func TestShapesThatMayNotBe(t *testing.T) {
	for _, r := range misshapen {
		if n, e := ring.Cells(r); n != 0 || e != api.ErrShape {
			t.Errorf("N2: Cells(%v) = %d, %d", r, n, e)
		}
		if c, e := ring.Fill(r, []api.Task{pair(never, 0), {}, {}, {}}); len(c) != 0 || e != api.ErrShape {
			t.Errorf("N2: Fill(%v) = %v, %d", r, c, e)
		}
		for _, who := range []int{0, -1} {
			if h, e := ring.Open(r, who); h != nil || e != api.ErrShape {
				t.Errorf("N3: Open(%v, %d): %d", r, who, e)
			}
		}
		for _, cells := range [][]uint64{nil, make([]uint64, 100)} {
			if l, e := ring.Held(r, cells, []*ring.Handle{nil}); len(l) != 0 || e != api.ErrShape {
				t.Errorf("N8: Held(%v) = %v, %d", r, l, e)
			}
		}
	}
}

func TestFill(t *testing.T) {
	r := api.Ring{Base: 6, Cap: 3}
	for _, c := range []struct {
		tasks []api.Task
		want  []uint64
		e     api.Errno
	}{
		{nil, []uint64{0, 0, 0, 0, 0, 1, 0, 0, 2, 0, 0}, api.OK},
		{[]api.Task{pair(5, 1)}, []uint64{1, 0, 1, 5, 1, 1, 0, 0, 2, 0, 0}, api.OK},
		{[]api.Task{pair(5, 1), pair(3, 2)}, []uint64{2, 0, 1, 5, 1, 2, 3, 2, 2, 0, 0}, api.OK},
		{[]api.Task{pair(5, 1), pair(3, 2), pair(never-1, never)}, []uint64{3, 0, 1, 5, 1, 2, 3, 2, 3, never - 1, never}, api.OK},
		{make([]api.Task, 4), nil, api.ErrFull},
		{[]api.Task{{}, {}, {}, pair(never, 0)}, nil, api.ErrLabel},
		{[]api.Task{pair(never, 0)}, nil, api.ErrLabel},
	} {
		if got, e := ring.Fill(r, c.tasks); !slices.Equal(got, c.want) || e != c.e {
			t.Errorf("N2: Fill(%v) = %v, %d, want %v, %d", c.tasks, got, e, c.want, c.e)
		}
	}
}

func TestOpen(t *testing.T) {
	r := api.Ring{Cap: 2}
	for _, who := range []int{-1, math.MinInt} {
		if h, e := ring.Open(r, who); h != nil || e != api.ErrPlace {
			t.Errorf("N3: Open(%d): %d", who, e)
		}
	}
	for _, who := range []int{0, 1, api.MaxWorkers, math.MaxInt} {
		if h, e := ring.Open(r, who); h == nil || e != api.OK {
			t.Errorf("N3: Open(%d): %d", who, e)
		}
	}
}

// TestHeldRefuses: the cells are looked at ahead of the handles.
func TestHeldRefuses(t *testing.T) {
	r := api.Ring{Base: 3, Cap: 2}
	mine := open(t, r)
	for _, c := range []struct {
		cells int
		hs    []*ring.Handle
		want  api.Errno
	}{
		{0, nil, api.ErrList},
		{10, nil, api.ErrList},
		{10, []*ring.Handle{nil}, api.ErrList},
		{11, []*ring.Handle{nil}, api.ErrShape},
		{11, []*ring.Handle{mine, nil}, api.ErrShape},
		{11, []*ring.Handle{new(ring.Handle)}, api.ErrShape},
		{11, []*ring.Handle{mine, open(t, api.Ring{Base: 3, Cap: 3})}, api.ErrShape},
		{11, []*ring.Handle{open(t, api.Ring{Base: 2, Cap: 2}), mine}, api.ErrShape},
		{11, nil, api.OK},
		{11, []*ring.Handle{}, api.OK},
		{11, []*ring.Handle{mine, open(t, r)}, api.OK},
		{12, []*ring.Handle{mine}, api.OK},
	} {
		if l, e := ring.Held(r, make([]uint64, c.cells), c.hs); len(l) != 0 || e != c.want {
			t.Errorf("N8: Held of %d cells and %d handles = %v, %d, want %d", c.cells, len(c.hs), l, e, c.want)
		}
	}
}

// TestHeldOfAnyCells: a slot counts by its turn, the head and the tail, whatever wrote them.
func TestHeldOfAnyCells(t *testing.T) {
	r := api.Ring{Cap: 2}
	four, six := pair(4, 5), pair(6, 7)
	for _, c := range []struct {
		name                   string
		tail, head, one, other uint64
		want                   []api.Task
	}{
		{"both", 2, 0, 1, 2, []api.Task{four, six}},
		{"turns of 0", 2, 0, 0, 0, nil},
		{"a turn of 0 and the last place", 0, never, 0, 2, nil},
		{"not filled yet", 2, 0, 0, 1, nil},
		{"behind the tail", 1, 0, 1, 2, []api.Task{four}},
		{"ahead of the head", 2, 1, 1, 2, []api.Task{six}},
		{"none between them", 2, 2, 1, 2, nil},
		{"gone round", 12, 10, 11, 12, []api.Task{four, six}},
		{"gone round, one of them emptied", 12, 11, 12, 12, []api.Task{six}},
		{"of another slot", 12, 10, 12, 11, nil},
		{"far up", never, never - 2, never, never - 1, []api.Task{four, six}},
	} {
		cells := []uint64{c.tail, c.head, c.one, 4, 5, c.other, 6, 7}
		if l, e := ring.Held(r, cells, nil); e != api.OK || !slices.Equal(l, c.want) {
			t.Errorf("N8: %s: Held = %v, %d, want %v", c.name, l, e, c.want)
		}
	}
}

// TestNoListsBeyondTheLimits: no refused shape makes one.
func TestNoListsBeyondTheLimits(t *testing.T) {
	var ahead, behind runtime.MemStats
	runtime.ReadMemStats(&ahead)
	for _, r := range misshapen {
		ring.Cells(r)
		ring.Fill(r, nil)
		ring.Open(r, 0)
		ring.Held(r, nil, nil)
	}
	ring.Fill(api.Ring{Cap: api.MaxCap}, []api.Task{pair(never, 1)})
	ring.Held(api.Ring{Cap: api.MaxCap}, nil, nil)
	runtime.ReadMemStats(&behind)
	if n := behind.TotalAlloc - ahead.TotalAlloc; n > 1<<16 {
		t.Errorf("P0.9: %d bytes are taken", n)
	}
}

// TestTheGreatest: a ring as great as may be, full.
func TestTheGreatest(t *testing.T) {
	r := api.Ring{Cap: api.MaxCap}
	tasks := make([]api.Task, api.MaxCap)
	for i := range tasks {
		tasks[i] = pair(uint64(i), 7)
	}
	cells, e := ring.Fill(r, tasks)
	if e != api.OK || len(cells) != 2+3*api.MaxCap {
		t.Fatalf("N2: Fill = %d cells, %d", len(cells), e)
	}
	if l, e := ring.Held(r, cells, nil); e != api.OK || !slices.Equal(l, tasks) {
		t.Errorf("N8: Held of a full one = %d tasks, %d", len(l), e)
	}
	if c, e := ring.Fill(r, append(tasks, pair(1, 1))); len(c) != 0 || e != api.ErrFull {
		t.Errorf("N2: Fill of one more = %d", e)
	}
}
