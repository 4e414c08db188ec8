package arena_test

import (
	"math"
	"slices"
	"testing"

	"wayfare/api"
	"wayfare/arena"
)

const most = math.MaxUint64

func newArena(t *testing.T, n int, keep bool) *arena.Arena {
	t.Helper()
	a, e := arena.New(n, keep)
	if a == nil || e != api.OK {
		t.Fatalf("A1: New(%d, %v) = %d", n, keep, e)
	}
	return a
}

func newPort(t *testing.T, a *arena.Arena, who int) *arena.Port {
	t.Helper()
	p, e := a.Port(who)
	if p == nil || e != api.OK {
		t.Fatalf("A3: Port(%d) = %d", who, e)
	}
	return p
}

// wantFault looks at what stopped an arena.
func wantFault(t *testing.T, a *arena.Arena, want api.Fault) {
	t.Helper()
	if f, is := a.Fault(); f != want || !is {
		t.Errorf("A5: Fault = %v, %v, want %v", f, is, want)
	}
}

func wantCells(t *testing.T, a *arena.Arena, want ...uint64) {
	t.Helper()
	if got := a.Image(); !slices.Equal(got, want) {
		t.Errorf("A2: Image = %v, want %v", got, want)
	}
}

// accesses are the five, each with numbers that can be told apart.
var accesses = []struct {
	name string
	make func(p *arena.Port, cell int) (uint64, bool) // what the call answers, in one of the two
	want func(who, cell int, seen uint64) api.Access
}{
	{"Load", func(p *arena.Port, cell int) (uint64, bool) { return p.Load(cell), false },
		func(who, cell int, seen uint64) api.Access {
			return api.Access{Who: who, Kind: 1, Cell: cell, Seen: seen, Left: seen, Ok: true}
		}},
	{"Store", func(p *arena.Port, cell int) (uint64, bool) { p.Store(cell, 21); return 0, false },
		func(who, cell int, seen uint64) api.Access {
			return api.Access{Who: who, Kind: 2, Cell: cell, Put: 21, Seen: seen, Left: 21, Ok: true}
		}},
	{"Cas that exchanges", func(p *arena.Port, cell int) (uint64, bool) { return 0, p.Cas(cell, 6, 31) },
		func(who, cell int, seen uint64) api.Access {
			return api.Access{Who: who, Kind: 3, Cell: cell, Want: 6, Put: 31, Seen: seen, Left: 31, Ok: true}
		}},
	{"Cas that does not", func(p *arena.Port, cell int) (uint64, bool) { return 0, p.Cas(cell, 7, 31) },
		func(who, cell int, seen uint64) api.Access {
			return api.Access{Who: who, Kind: 3, Cell: cell, Want: 7, Put: 31, Seen: seen, Left: seen}
		}},
	{"Add", func(p *arena.Port, cell int) (uint64, bool) { return p.Add(cell, most-1), false },
		func(who, cell int, seen uint64) api.Access {
			return api.Access{Who: who, Kind: 4, Cell: cell, Put: most - 1, Seen: seen, Left: seen - 2, Ok: true}
		}},
	{"Swap", func(p *arena.Port, cell int) (uint64, bool) { return p.Swap(cell, 51), false },
		func(who, cell int, seen uint64) api.Access {
			return api.Access{Who: who, Kind: 5, Cell: cell, Put: 51, Seen: seen, Left: 51, Ok: true}
		}},
}

func TestNew(t *testing.T) {
	for _, n := range []int{0, 1, 1000, api.MaxCells} {
		a := newArena(t, n, false)
		if a.Len() != n || a.Count() != 0 || len(a.Log()) != 0 {
			t.Errorf("A1: New(%d): Len %d, Count %d, Log of %d", n, a.Len(), a.Count(), len(a.Log()))
		}
		if image := a.Image(); len(image) != n || slices.ContainsFunc(image, func(v uint64) bool { return v != 0 }) {
			t.Errorf("A1: New(%d): an image of %d, or cells that do not hold 0", n, len(image))
		}
	}
	for _, n := range []int{-1, math.MinInt, api.MaxCells + 1, math.MaxInt} {
		for _, keep := range []bool{false, true} {
			if a, e := arena.New(n, keep); a != nil || e != api.ErrCells {
				t.Errorf("A1: New(%d, %v) = %v, %d", n, keep, a != nil, e)
			}
		}
	}
}

func TestKeep(t *testing.T) {
	for _, keep := range []bool{false, true} {
		a := newArena(t, 1, keep)
		p := newPort(t, a, 0)
		for range 3 {
			p.Grant()
			p.Add(0, 2)
		}
		long := 0
		if keep {
			long = 3
		}
		if v, _ := a.Peek(0); a.Count() != 3 || len(a.Log()) != long || v != 6 {
			t.Errorf("A1: keep %v: Count %d, Log of %d, the cell %d", keep, a.Count(), len(a.Log()), v)
		}
	}
}

func TestPeekAndPoke(t *testing.T) {
	a := newArena(t, 3, true)
	if e := a.Poke(2, most); e != api.OK {
		t.Errorf("A2: Poke(2) = %d", e)
	}
	if v, e := a.Peek(2); v != most || e != api.OK {
		t.Errorf("A2: Peek(2) = %d, %d", v, e)
	}
	for _, cell := range []int{-1, 3, math.MinInt, math.MaxInt} {
		if v, e := a.Peek(cell); v != 0 || e != api.ErrCell {
			t.Errorf("A2: Peek(%d) = %d, %d", cell, v, e)
		}
		if e := a.Poke(cell, 1); e != api.ErrCell {
			t.Errorf("A2: Poke(%d) = %d", cell, e)
		}
	}
	wantCells(t, a, 0, 0, most)
	if _, is := a.Fault(); is || a.Count() != 0 || len(a.Log()) != 0 {
		t.Errorf("A2: Peek and Poke are accesses, or stop the arena")
	}
	none := newArena(t, 0, true)
	if v, e := none.Peek(0); v != 0 || e != api.ErrCell || none.Poke(0, 1) != api.ErrCell {
		t.Errorf("A2: a cell of no cells: %d, %d", v, e)
	}
}

func TestPeekAndPokeBehindAStop(t *testing.T) {
	a := newArena(t, 2, true)
	a.Stop(api.Fault{Kind: api.FaultNone})
	if e := a.Poke(1, 8); e != api.OK {
		t.Errorf("A2: Poke behind a stop = %d", e)
	}
	if v, e := a.Peek(1); v != 8 || e != api.OK {
		t.Errorf("A2: Peek behind a stop = %d, %d", v, e)
	}
	wantCells(t, a, 0, 8)
	if a.Poke(2, 1) != api.ErrCell {
		t.Error("A2: Poke of no cell behind a stop")
	}
}

func TestPortsAndGrants(t *testing.T) {
	a := newArena(t, 1, true)
	for _, who := range []int{-1, math.MinInt} {
		if p, e := a.Port(who); p != nil || e != api.ErrWho {
			t.Errorf("A3: Port(%d) = %v, %d", who, p != nil, e)
		}
	}
	p, q, far := newPort(t, a, 4), newPort(t, a, 4), newPort(t, a, math.MaxInt)
	if p.Who() != 4 || q.Who() != 4 || far.Who() != math.MaxInt {
		t.Errorf("A3: Who = %d, %d, %d", p.Who(), q.Who(), far.Who())
	}
	if p.Granted() || q.Granted() {
		t.Error("A3: a new port has a grant")
	}
	p.Grant()
	if !p.Granted() || q.Granted() {
		t.Error("A3: a grant is of one port alone, also of two of one number")
	}
	p.Grant()
	p.Store(0, 1)
	if p.Granted() {
		t.Error("A3: two grants are one")
	}
	if q.Load(0); a.Count() != 1 {
		t.Error("A3: the one port's grant let the other's access pass")
	}
	wantFault(t, a, api.Fault{Who: 4, Kind: api.FaultTwice})
}

func TestEachAccess(t *testing.T) {
	for _, x := range accesses {
		a := newArena(t, 3, true)
		a.Poke(1, 6)
		p := newPort(t, a, 5)
		p.Grant()
		got, ok := x.make(p, 1)
		want := x.want(5, 1, 6)
		if want.Kind == api.AccCas && ok != want.Ok {
			t.Errorf("%s answers %v", x.name, ok)
		}
		if want.Kind != api.AccCas && want.Kind != api.AccStore && got != 6 {
			t.Errorf("%s answers %d", x.name, got)
		}
		if l := a.Log(); len(l) != 1 || l[0] != want {
			t.Errorf("%s: Log = %v, want %v", x.name, l, want)
		}
		wantCells(t, a, 0, want.Left, 0)
		if _, is := a.Fault(); is || p.Granted() || a.Count() != 1 {
			t.Errorf("A4: %s: stopped %v, Granted %v, Count %d", x.name, is, p.Granted(), a.Count())
		}
	}
}

// TestAccessesThatAreNotMade: for each of the five, what keeps it from being made, and what is so behind it.
func TestAccessesThatAreNotMade(t *testing.T) {
	stop := api.Fault{Who: 9, Kind: 3, Cell: 9}
	for _, c := range []struct {
		name             string
		stopped, granted bool
		cell             int
		want             api.Fault
		left             bool // a grant is left
	}{
		{"no grant", false, false, 1, api.Fault{Who: 5, Kind: 2, Cell: 1}, false},
		{"no grant and no cell", false, false, 2, api.Fault{Who: 5, Kind: 2, Cell: 2}, false},
		{"just behind the last cell", false, true, 2, api.Fault{Who: 5, Kind: 1, Cell: 2}, false},
		{"below the first cell", false, true, -1, api.Fault{Who: 5, Kind: 1, Cell: -1}, false},
		{"far below", false, true, math.MinInt, api.Fault{Who: 5, Kind: 1, Cell: math.MinInt}, false},
		{"far behind", false, true, math.MaxInt, api.Fault{Who: 5, Kind: 1, Cell: math.MaxInt}, false},
		{"stopped, a grant", true, true, 1, stop, true},
		{"stopped, no grant", true, false, 1, stop, false},
		{"stopped, a grant, no cell", true, true, 2, stop, true},
	} {
		for _, x := range accesses {
			a := newArena(t, 2, true)
			a.Poke(1, 6)
			p := newPort(t, a, 5)
			if c.granted {
				p.Grant()
			}
			if c.stopped {
				a.Stop(stop)
			}
			if got, ok := x.make(p, c.cell); got != 0 || ok {
				t.Errorf("A4: %s, %s: answers %d, %v", x.name, c.name, got, ok)
			}
			wantFault(t, a, c.want)
			wantCells(t, a, 0, 6)
			if p.Granted() != c.left || a.Count() != 0 || len(a.Log()) != 0 {
				t.Errorf("A4: %s, %s: Granted %v, Count %d, Log %v", x.name, c.name, p.Granted(), a.Count(), a.Log())
			}
		}
	}
}

func TestGrantsBehindAStop(t *testing.T) {
	a := newArena(t, 1, true)
	a.Stop(api.Fault{})
	p := newPort(t, a, 0)
	if p.Granted() {
		t.Error("A3: a new port of a stopped arena has a grant")
	}
	p.Grant()
	if !p.Granted() {
		t.Error("A3: Grant behind a stop")
	}
	if p.Swap(0, 4); !p.Granted() {
		t.Error("A4: an access behind a stop uses the grant up")
	}
}

func TestStop(t *testing.T) {
	for _, f := range []api.Fault{{Who: 7, Kind: 3}, {Who: -1, Kind: -2, Cell: math.MinInt}, {}} {
		a := newArena(t, 1, true)
		if got, is := a.Fault(); is || got != (api.Fault{}) {
			t.Errorf("A5: Fault of a new arena = %v, %v", got, is)
		}
		a.Stop(f)
		wantFault(t, a, f)
		a.Stop(api.Fault{Who: 1, Kind: 1, Cell: 1})
		newPort(t, a, 8).Load(0)
		wantFault(t, a, f)
	}
}

func TestExamples(t *testing.T) {
	a := newArena(t, 2, true)
	p, q := newPort(t, a, 0), newPort(t, a, 1)
	if v := p.Load(0); v != 0 || a.Count() != 0 {
		t.Errorf("row 1: %d, Count %d", v, a.Count())
	}
	wantFault(t, a, api.Fault{Who: 0, Kind: 2, Cell: 0})

	a = newArena(t, 2, true)
	p, q = newPort(t, a, 0), newPort(t, a, 1)
	p.Grant()
	if v := p.Add(1, most); v != 0 {
		t.Errorf("row 2: %d", v)
	}
	if v, e := a.Peek(1); v != most || e != api.OK {
		t.Errorf("row 2: %d, %d", v, e)
	}
	q.Grant()
	if q.Cas(1, 5, 6) {
		t.Error("row 3: exchanged")
	}
	if l := a.Log(); len(l) != 2 || l[1] != (api.Access{Who: 1, Kind: 3, Cell: 1, Want: 5, Put: 6, Seen: most, Left: most}) {
		t.Errorf("row 3: %v", l)
	}
	was := q.Granted()
	q.Grant()
	q.Grant()
	if v := q.Swap(0, 9); was || v != 0 || q.Granted() {
		t.Errorf("row 4: %v, %d, %v", was, v, q.Granted())
	}
	p.Grant()
	if v := p.Load(2); v != 0 {
		t.Errorf("row 5: %d", v)
	}
	wantFault(t, a, api.Fault{Who: 0, Kind: 1, Cell: 2})
	q.Grant()
	v := q.Load(0)
	if c, _ := a.Peek(0); v != 0 || !q.Granted() || c != 9 {
		t.Errorf("row 6: %d, %v, %d", v, q.Granted(), c)
	}
	a.Stop(api.Fault{Who: 7, Kind: 3})
	wantFault(t, a, api.Fault{Who: 0, Kind: 1, Cell: 2})
}

// TestListsAreNew: what was told is the caller's, and the arena's is its own.
func TestListsAreNew(t *testing.T) {
	a := newArena(t, 3, true)
	p := newPort(t, a, 0)
	for cell := range 3 {
		p.Grant()
		p.Store(cell, uint64(cell)+1)
	}
	image, log := a.Image(), a.Log()
	spoil(image)
	spoil(log)
	wantCells(t, a, 1, 2, 3)
	if l := a.Log(); len(l) != 3 || l[0].Put != 1 || l[2].Put != 3 {
		t.Errorf("P0.4: a log that was told is the arena's own: %v", l)
	}
	image, log = a.Image(), a.Log()
	p.Grant()
	p.Store(0, 7)
	if image[0] != 1 || len(log) != 3 || log[0].Left != 1 {
		t.Errorf("P0.4: what was told changes behind it: %v, %v", image, log)
	}
}

// spoil overwrites a list, its spare room included.
func spoil[T any](l []T) {
	var zero T
	l = l[:cap(l)]
	for i := range l {
		l[i] = zero
	}
}

// TestPortsThatLeadNowhere: machines are handed ports by anyone.
func TestPortsThatLeadNowhere(t *testing.T) {
	for _, p := range []*arena.Port{nil, {}} {
		p.Grant()
		if p.Who() != 0 || p.Granted() {
			t.Errorf("P0.1: Who %d, Granted %v", p.Who(), p.Granted())
		}
		for _, x := range accesses {
			if v, ok := x.make(p, 0); v != 0 || ok {
				t.Errorf("P0.1: %s answers %d, %v", x.name, v, ok)
			}
		}
	}
}
