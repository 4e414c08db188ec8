package quiet_test

import (
	"math/rand"
	"slices"
	"testing"

	"wayfare/api"
	"wayfare/arena"
	"wayfare/loom"
	"wayfare/quiet"
)

// crowd is operations in rows, each row by one who begins the next when the one ahead is over.
type crowd struct {
	t    *testing.T
	a    *arena.Arena
	rows [][]kind
	open []*quiet.Op
	from uint64 // pending at the start
}

func newCrowd(t *testing.T, pending uint64, rows ...[]kind) *crowd {
	t.Helper()
	c := &crowd{t: t, a: arenaWith(pending, 0, 0), from: pending, open: make([]*quiet.Op, len(rows))}
	for _, r := range rows {
		c.rows = append(c.rows, slices.Clone(r))
	}
	for who := range rows {
		c.begin(who)
	}
	return c
}

func (c *crowd) begin(who int) {
	c.open[who] = nil
	if len(c.rows[who]) > 0 {
		c.open[who] = begin(c.t, c.rows[who][0], 0)
		c.rows[who] = c.rows[who][1:]
	}
}

func (c *crowd) step(who int) {
	p := portOf(c.a, who)
	p.Grant()
	if c.open[who].Step(p); c.open[who].Over() {
		c.begin(who)
	}
}

func (c *crowd) awake() []int {
	var out []int
	for who, o := range c.open {
		if o != nil {
			out = append(out, who)
		}
	}
	return out
}

// look holds the cells against the accesses that were made.
func (c *crowd) look() {
	c.t.Helper()
	pending, lowered, fault, done := c.from, false, uint64(0), uint64(0)
	for _, x := range c.a.Log() {
		switch {
		case x.Kind == api.AccAdd && x.Cell == 0:
			lowered = lowered || x.Put == most && x.Seen == 1
			pending += x.Put
		case x.Kind == api.AccStore && x.Cell == 1:
			if done = 1; !lowered {
				c.t.Fatal("Q5: done is set, and no Lower has found 1")
			}
		case x.Kind == api.AccCas && x.Cell == 2:
			if fault == 0 {
				fault = x.Put
			}
		case x.Kind != api.AccLoad:
			c.t.Fatalf("Q2: an access %v", x)
		}
	}
	if got, want := c.a.Image(), []uint64{pending, done, fault}; !slices.Equal(got, want) {
		c.t.Fatalf("Q5: cells %v, want %v", got, want)
	}
}

// everyOrder plays all interleavings, and looks behind each step.
func everyOrder(build func() *crowd, picks []int) int {
	c := build()
	for _, who := range picks {
		c.step(who)
	}
	c.look()
	ends := 0
	for _, who := range c.awake() {
		ends += everyOrder(build, append(slices.Clone(picks), who))
	}
	return max(ends, 1)
}

func TestEveryOrder(t *testing.T) {
	for i, c := range []struct {
		pending uint64
		rows    [][]kind
	}{
		{2, [][]kind{{lowering}, {lowering}, {asking, asking}}},
		{1, [][]kind{{raising, lowering, lowering}, {asking}, {failing(3), failing(4)}}},
		{0, [][]kind{{raising, lowering}, {raising, lowering}, {failing(5)}}},
		{0, [][]kind{{lowering, raising}, {failing(8)}, {failing(9), asking}}},
		{1, [][]kind{{lowering}, {failing(8), asking}, {asking, failing(9)}}},
	} {
		if n := everyOrder(func() *crowd { return newCrowd(t, c.pending, c.rows...) }, nil); n < 30 {
			t.Errorf("crowd %d: only %d interleavings", i, n)
		}
	}
}

// TestQuietIsQuiet: each has tasks in hand, and raises for a new one only while it has: done comes behind the last of them, once, whatever the order.
func TestQuietIsQuiet(t *testing.T) {
	r := rand.New(rand.NewSource(16))
	for range 2000 {
		workers := 1 + r.Intn(4)
		hands := make([]int, workers) // tasks in hand, of which the Lower's Add was not made
		first := 0
		for who := range hands {
			hands[who] = r.Intn(3)
			first += hands[who]
		}
		a := arenaWith(uint64(first), 0, 0)
		open, lowers := make([]*quiet.Op, workers), make([]bool, workers)
		for range 200 {
			who := r.Intn(workers)
			if open[who] == nil {
				if hands[who] == 0 {
					continue
				}
				lowers[who] = r.Intn(3) > 0
				open[who] = begin(t, map[bool]kind{true: lowering, false: raising}[lowers[who]], 0)
			}
			from := a.Count()
			step(t, a, open[who])
			if x := a.Log()[from]; x.Kind == api.AccAdd && lowers[who] {
				hands[who]--
			} else if x.Kind == api.AccAdd {
				hands[who]++
			}
			if open[who].Over() {
				open[who] = nil
			}
			wantCounted(t, a, hands)
		}
	}
}

// wantCounted: pending is how many are in hand; done is set only when none is.
func wantCounted(t *testing.T, a *arena.Arena, hands []int) {
	t.Helper()
	sum := 0
	for _, n := range hands {
		sum += n
	}
	pending, _ := a.Peek(0)
	done, _ := a.Peek(1)
	if pending != uint64(sum) || done != 0 && sum != 0 {
		t.Fatalf("Q6: pending %d, done %d, and %d tasks in hand", pending, done, sum)
	}
}

// row is kinds that one machine makes one behind the other.
type row struct {
	rest []kind
	open *quiet.Op
}

func (r *row) Over() bool { return r.open == nil }

func (r *row) Step(p *arena.Port) {
	if r.open.Step(p); r.open.Over() {
		r.next()
	}
}

func (r *row) next() {
	r.open = nil
	if len(r.rest) > 0 {
		r.open, _ = r.rest[0].begin(api.Quiet{})
		r.rest = r.rest[1:]
	}
}

// TestLive: as goroutines, the one that lowers last says so, and the first code stays.
func TestLive(t *testing.T) {
	for range 100 {
		const workers, each = 4, 50
		a := arenaWith(workers, 0, 0)
		var machines []loom.Machine
		for who := range workers {
			r := &row{}
			for range each {
				r.rest = append(r.rest, raising, asking, lowering)
			}
			r.rest = append(r.rest, failing(uint64(who)+1), lowering)
			r.next()
			machines = append(machines, r)
		}
		if e := loom.Live(a, machines); e != api.OK {
			t.Fatalf("Live = %d", e)
		}
		var first uint64
		for _, x := range a.Log() {
			if x.Kind == api.AccCas && x.Ok {
				first = x.Put
			}
		}
		if got := a.Image(); !slices.Equal(got, []uint64{0, 1, first}) || first == 0 {
			t.Fatalf("Q5, Q6: cells %v, the first fault %d", got, first)
		}
	}
}
