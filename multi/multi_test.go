package multi_test

import (
	"math"
	"runtime"
	"slices"
	"testing"

	"wayfare/api"
	"wayfare/dice"
	"wayfare/lane"
	"wayfare/multi"
)

const never = api.Never

// good is as great as may be in all but Cap and Base; it has 1024 lanes of 5 cells.
var good = api.Multi{Workers: 64, Per: 16, Cap: 1, Arity: 16, In: 64, Out: 64, Stick: 64, Tries: 64}

// misshapen are pools that may not be: each has one number that is out of its range.
func misshapen() []api.Multi {
	out := []api.Multi{{}}
	with := func(change func(m *api.Multi)) {
		m := good
		change(&m)
		out = append(out, m)
	}
	for _, n := range []int{-1, math.MinInt, math.MaxInt} {
		with(func(m *api.Multi) { m.Workers = n })
		with(func(m *api.Multi) { m.Per = n })
		with(func(m *api.Multi) { m.Cap = n })
		with(func(m *api.Multi) { m.Arity = n })
		with(func(m *api.Multi) { m.In = n })
		with(func(m *api.Multi) { m.Out = n })
		with(func(m *api.Multi) { m.Stick = n })
		with(func(m *api.Multi) { m.Tries = n })
		with(func(m *api.Multi) { m.Base = n })
	}
	with(func(m *api.Multi) { m.Workers = 0 })
	with(func(m *api.Multi) { m.Workers = 65 })
	with(func(m *api.Multi) { m.Per = 0 })
	with(func(m *api.Multi) { m.Per = 17 })
	with(func(m *api.Multi) { m.Cap = 0 })
	with(func(m *api.Multi) { m.Workers, m.Per, m.Cap = 1, 1, api.MaxCap+1 })
	with(func(m *api.Multi) { m.Cap = api.MaxCap })
	with(func(m *api.Multi) { m.Cap = 8191 }) // 1024 lanes of 16385 cells
	with(func(m *api.Multi) { m.Arity = 1 })
	with(func(m *api.Multi) { m.Arity = 17 })
	with(func(m *api.Multi) { m.In = 65 })
	with(func(m *api.Multi) { m.Out = 0 })
	with(func(m *api.Multi) { m.Out = 65 })
	with(func(m *api.Multi) { m.Stick = 0 })
	with(func(m *api.Multi) { m.Stick = 65 })
	with(func(m *api.Multi) { m.Tries = 0 })
	with(func(m *api.Multi) { m.Tries = 65 })
	with(func(m *api.Multi) { m.Base = api.MaxCells - 5*1024 + 1 })
	with(func(m *api.Multi) { m.Base = api.MaxCells - 5 })
	with(func(m *api.Multi) { m.Base = math.MaxInt - 5*1024 })
	return out
}

func pair(key, load uint64) api.Task { return api.Task{Key: key, Load: load} }

func TestCells(t *testing.T) {
	last, least := good, api.Multi{Workers: 1, Per: 1, Cap: 1, Arity: 2, In: 0, Out: 1, Stick: 1, Tries: 1}
	last.Base = api.MaxCells - 5*1024
	wide := good
	wide.Cap = 8190
	for _, c := range []struct {
		m    api.Multi
		want int
	}{
		{good, 5 * 1024},
		{last, 5 * 1024},
		{least, 5},
		{wide, 1024 * 16383},
		{api.Multi{Workers: 1, Per: 1, Cap: api.MaxCap, Arity: 2, In: 0, Out: 1, Stick: 1, Tries: 1}, 3 + 2*api.MaxCap},
		{api.Multi{Base: 7, Workers: 3, Per: 2, Cap: 4, Arity: 3, In: 1, Out: 2, Stick: 2, Tries: 2}, 66},
	} {
		if n, e := multi.Cells(c.m); n != c.want || e != api.OK {
			t.Errorf("M1: Cells(%v) = %d, %d, want %d", c.m, n, e, c.want)
		}
		open(t, c.m, 0, nil)
	}
}

// TestShapesThatMayNotBe: whatever else is at fault, the shape is told first.
func TestShapesThatMayNotBe(t *testing.T) {
	for _, m := range misshapen() {
		if n, e := multi.Cells(m); n != 0 || e != api.ErrShape {
			t.Errorf("M1: Cells(%v) = %d, %d", m, n, e)
		}
		if c, e := multi.Fill(m, append(make([]api.Task, 2000), pair(never, 0))); len(c) != 0 || e != api.ErrShape {
			t.Errorf("M1: Fill(%v) = %v, %d", m, c, e)
		}
		for _, who := range []int{0, -1, 99} {
			if h, e := multi.Open(m, who, dice.New(1, nil)); h != nil || e != api.ErrShape {
				t.Errorf("M2: Open(%v, %d): %d", m, who, e)
			}
		}
		for _, cells := range [][]uint64{nil, make([]uint64, 100)} {
			if l, e := multi.Held(m, cells, []*multi.Handle{nil}); len(l) != 0 || e != api.ErrShape {
				t.Errorf("M5: Held(%v) = %v, %d", m, l, e)
			}
		}
	}
}

// TestFill: lane behind lane, as lane.Fill tells each of them.
func TestFill(t *testing.T) {
	m := api.Multi{Base: 4, Workers: 1, Per: 2, Cap: 2, Arity: 2, In: 2, Out: 2, Stick: 1, Tries: 1}
	for _, c := range []struct {
		tasks []api.Task
		want  []uint64
		e     api.Errno
	}{
		{nil, []uint64{0, never, 0, 0, 0, 0, 0, 0, never, 0, 0, 0, 0, 0}, api.OK},
		{[]api.Task{pair(5, 1)}, []uint64{0, 5, 1, 5, 1, 0, 0, 0, never, 0, 0, 0, 0, 0}, api.OK},
		{[]api.Task{pair(5, 1), pair(6, 2), pair(3, 3)}, []uint64{0, 3, 2, 3, 3, 5, 1, 0, 6, 1, 6, 2, 0, 0}, api.OK},
		{[]api.Task{pair(5, 1), pair(6, 2), pair(3, 3), pair(never-1, 9)}, []uint64{0, 3, 2, 3, 3, 5, 1, 0, 6, 2, 6, 2, never - 1, 9}, api.OK},
		{make([]api.Task, 5), nil, api.ErrFull},
		{[]api.Task{{}, {}, {}, {}, {}, pair(never, 0)}, nil, api.ErrLabel},
		{[]api.Task{pair(never, 0)}, nil, api.ErrLabel},
	} {
		if got, e := multi.Fill(m, c.tasks); !slices.Equal(got, c.want) || e != c.e {
			t.Errorf("M1: Fill(%v) = %v, %d, want %v, %d", c.tasks, got, e, c.want, c.e)
		}
	}
	m = api.Multi{Workers: 3, Per: 1, Cap: 3, Arity: 3, In: 0, Out: 1, Stick: 1, Tries: 1}
	tasks := []api.Task{pair(9, 0), pair(8, 1), pair(7, 2), pair(6, 3), pair(5, 4), pair(4, 5), pair(3, 6)}
	var want []uint64
	for q, dealt := range [][]api.Task{{tasks[0], tasks[3], tasks[6]}, {tasks[1], tasks[4]}, {tasks[2], tasks[5]}} {
		cells, _ := lane.Fill(api.Lane{Base: 9 * q, Cap: 3, Arity: 3}, dealt)
		want = append(want, cells...)
	}
	if got, e := multi.Fill(m, tasks); !slices.Equal(got, want) || e != api.OK {
		t.Errorf("M1: Fill = %v, %d, want %v", got, e, want)
	}
}

func TestOpen(t *testing.T) {
	m := api.Multi{Workers: 2, Per: 3, Cap: 1, Arity: 2, In: 0, Out: 1, Stick: 1, Tries: 1}
	for _, who := range []int{-1, 2, 5, math.MinInt, math.MaxInt} {
		for _, d := range []*dice.Dice{nil, dice.New(1, nil)} {
			if h, e := multi.Open(m, who, d); h != nil || e != api.ErrPlace {
				t.Errorf("M2: Open(%d): %d", who, e)
			}
		}
	}
	d := dice.New(1, nil)
	if h := open(t, m, 1, d); !h.Over() || d.Used() != 0 {
		t.Errorf("M2: a handle that was opened: Over %v, %d draws", h.Over(), d.Used())
	}
}

// TestHeldRefuses: too few cells; handles that are nil are passed over.
func TestHeldRefuses(t *testing.T) {
	m := api.Multi{Base: 3, Workers: 2, Per: 1, Cap: 1, Arity: 2, In: 2, Out: 1, Stick: 1, Tries: 1}
	h := open(t, m, 0, nil)
	h.Insert(pair(5, 5))
	for _, n := range []int{0, 12} {
		if l, e := multi.Held(m, make([]uint64, n), []*multi.Handle{h}); len(l) != 0 || e != api.ErrList {
			t.Errorf("M5: Held of %d cells = %v, %d", n, l, e)
		}
	}
	for _, hs := range [][]*multi.Handle{{h}, {nil, h}, {h, nil, nil}, {new(multi.Handle), h}} {
		if l, e := multi.Held(m, make([]uint64, 13), hs); e != api.OK || !slices.Equal(l, []api.Task{pair(5, 5)}) {
			t.Errorf("M5: Held with %d handles = %v, %d", len(hs), l, e)
		}
	}
	for _, hs := range [][]*multi.Handle{nil, {}, {nil}} {
		if l, e := multi.Held(m, make([]uint64, 14), hs); e != api.OK || len(l) != 0 {
			t.Errorf("M5: Held without a handle = %v, %d", l, e)
		}
	}
}

// TestHeldOfAnyCells: a lane that nobody of these has locked counts by its size, whatever its lock and its top hold.
func TestHeldOfAnyCells(t *testing.T) {
	m := api.Multi{Workers: 1, Per: 2, Cap: 2, Arity: 2, In: 0, Out: 1, Stick: 1, Tries: 1}
	for _, c := range []struct {
		one, other uint64
		want       []api.Task
	}{
		{0, 0, nil},
		{1, 1, []api.Task{pair(4, 4), pair(8, 8)}},
		{9, 1, []api.Task{pair(3, 3), pair(4, 4), pair(8, 8)}},
		{2, never, []api.Task{pair(3, 3), pair(4, 4), pair(7, 7), pair(8, 8)}},
	} {
		cells := []uint64{5, never, c.one, 4, 4, 3, 3, 1, 0, c.other, 8, 8, 7, 7}
		if l, e := multi.Held(m, cells, nil); e != api.OK || !slices.Equal(l, c.want) {
			t.Errorf("M5: sizes %d, %d: Held = %v, %d, want %v", c.one, c.other, l, e, c.want)
		}
	}
}

// TestHeldOfOthers: handles of another pool break nothing.
func TestHeldOfOthers(t *testing.T) {
	far := api.Multi{Base: 1000, Workers: 1, Per: 1, Cap: 4, Arity: 2, In: 0, Out: 1, Stick: 1, Tries: 1}
	x := newTable(t, far, nil)
	x.hs[0].Insert(pair(1, 1))
	x.steps(0, 3)
	m := api.Multi{Workers: 1, Per: 2, Cap: 1, Arity: 2, In: 0, Out: 1, Stick: 1, Tries: 1}
	if _, e := multi.Held(m, make([]uint64, 10), x.hs); e != api.OK {
		t.Errorf("P0.1: Held = %d", e)
	}
}

// TestNoListsBeyondTheLimits: neither refused shapes nor a size that was written by anyone make one.
func TestNoListsBeyondTheLimits(t *testing.T) {
	small := api.Multi{Workers: 1, Per: 1, Cap: 2, Arity: 2, In: 0, Out: 1, Stick: 1, Tries: 1}
	great := api.Multi{Workers: 64, Per: 1, Cap: api.MaxCap, Arity: 2, In: 0, Out: 1, Stick: 1, Tries: 1}
	shapes := misshapen()
	var ahead, behind runtime.MemStats
	runtime.ReadMemStats(&ahead)
	for _, m := range shapes {
		multi.Cells(m)
		multi.Fill(m, nil)
		multi.Open(m, 0, nil)
		multi.Held(m, nil, nil)
	}
	multi.Held(small, []uint64{0, 0, never, 1, 1, 2, 2}, nil)
	multi.Fill(great, []api.Task{pair(never, 1)})
	multi.Held(great, nil, nil)
	runtime.ReadMemStats(&behind)
	if n := behind.TotalAlloc - ahead.TotalAlloc; n > 1<<16 {
		t.Errorf("P0.9: %d bytes are taken", n)
	}
}
