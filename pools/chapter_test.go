package pools_test

import (
	"math/rand"
	"slices"
	"testing"

	"wayfare/api"
	"wayfare/arena"
	"wayfare/dice"
)

// table is a pool and its chapter's telling side by side, each over an arena of its own with the same cells, and with dice that draw alike.
type table struct {
	p        pool
	a, b     *arena.Arena
	hs       []handle
	told     []teller
	ports    []*arena.Port
	da, db   []*dice.Dice
	statuses [8]int
}

func newTable(t *testing.T, r *rand.Rand, p pool, cells []uint64) *table {
	t.Helper()
	x := &table{p: p, a: arenaWith(t, cells), b: arenaWith(t, cells)}
	seed, bare := r.Uint64(), r.Intn(6) == 0
	for who := range p.workers {
		var da, db *dice.Dice
		if !bare {
			da, _ = dice.For(seed, who, []uint64{0, 1 << 63})
			db, _ = dice.For(seed, who, []uint64{0, 1 << 63})
		}
		h, e := p.open(who, da)
		if e != api.OK {
			t.Fatalf("%s: Open = %d", p.name, e)
		}
		x.da, x.db = append(x.da, da), append(x.db, db)
		x.hs, x.told = append(x.hs, h), append(x.told, p.tell(newLine(portOf(x.b, who)), who, db))
		x.ports = append(x.ports, portOf(x.a, who))
	}
	return x
}

// end lets go of what is told halfway.
func (x *table) end() {
	for _, m := range x.told {
		m.steps().stop()
	}
}

// pick begins an operation by chance, or goes on with the open one.
func (x *table) pick(t *testing.T, r *rand.Rand) {
	t.Helper()
	who := r.Intn(len(x.hs))
	h, m := x.hs[who], x.told[who]
	switch {
	case !m.steps().open && r.Intn(5) < 2:
		if e := h.Take(); e != api.OK {
			t.Fatalf("%s: Take = %d", x.p.name, e)
		}
		m.steps().begin(m.take)
	case !m.steps().open:
		c := taskByChance(r)
		if e := h.Insert(c); e != api.OK {
			t.Fatalf("%s: Insert(%v) = %d", x.p.name, c, e)
		}
		m.steps().begin(func() api.Reply { return m.insert(c) })
	default:
		x.ports[who].Grant()
		h.Step(x.ports[who])
		m.steps().step()
	}
	if !m.steps().open {
		x.statuses[m.steps().reply.Status]++
	}
	x.same(t, who)
}

// same: cells, accesses, draws, what is held, and what is told of it are the chapter's.
func (x *table) same(t *testing.T, who int) {
	t.Helper()
	h, m := x.hs[who], x.told[who].steps()
	cells := x.a.Image()
	if x.a.Count() != x.b.Count() || !slices.Equal(cells, x.b.Image()) {
		t.Fatalf("%s: behind %d accesses, of which the chapter has %d:\n%v, want\n%v", x.p.name, x.a.Count(), x.b.Count(), cells, x.b.Image())
	}
	if h.Over() == m.open || !sameReply(h.Reply(), m.reply) {
		t.Fatalf("%s: Over %v, Reply %v, want %v, %v", x.p.name, h.Over(), h.Reply(), !m.open, m.reply)
	}
	if d := x.da[who]; d != nil && d.Used() != x.db[who].Used() {
		t.Fatalf("%s: %d draws, want %d", x.p.name, d.Used(), x.db[who].Used())
	}
	if l, e := x.p.held(cells, x.hs); e != api.OK || !slices.Equal(l, x.told[0].held(cells, x.told)) {
		t.Fatalf("%s: Held = %v, %d, want %v", x.p.name, l, e, x.told[0].held(cells, x.told))
	}
}

// garbage are cells that anyone may have written.
func garbage(r *rand.Rand, n int) []uint64 {
	cells := make([]uint64, n)
	for i := range cells {
		cells[i] = word(r)
	}
	return cells
}

func word(r *rand.Rand) uint64 {
	switch r.Intn(8) {
	case 0:
		return never - uint64(r.Intn(3))
	case 1, 2, 3:
		return 0
	}
	return uint64(r.Intn(6))
}

// play plays one table for a while; spoil is what may be done to both arenas ahead of a pick.
func play(t *testing.T, r *rand.Rand, p pool, cells []uint64, picks int, spoil func(x *table, i int)) [8]int {
	t.Helper()
	x := newTable(t, r, p, cells)
	defer x.end()
	for i := range picks {
		spoil(x, i)
		x.pick(t, r)
	}
	if !slices.Equal(x.a.Log(), x.b.Log()) {
		t.Fatalf("%s: accesses\n%v, want\n%v", p.name, x.a.Log(), x.b.Log())
	}
	return x.statuses
}

func leave(*table, int) {}

// TestAgainstTheChapters: many workers in any order over a pool that was filled: each access, draw, reply and Held is as the chapter tells it.
func TestAgainstTheChapters(t *testing.T) {
	for name, shape := range byChance {
		r := rand.New(rand.NewSource(1))
		var ends [8]int
		for range 250 {
			p := shape(r)
			cells := arenaOf(t, p, fillByChance(r, p)).Image()
			for i, n := range play(t, r, p, cells, 150, leave) {
				ends[i] += n
			}
		}
		for _, status := range []int{api.StDone, api.StEmpty, api.StFull, api.StTask} {
			if ends[status] < 100 {
				t.Errorf("%s: only %d operations end with %d", name, ends[status], status)
			}
		}
	}
}

// TestAnyCells: sizes above Cap, turns of 0, bottoms below tops, locks that nobody has: the operations go on with what they read.
func TestAnyCells(t *testing.T) {
	for _, shape := range byChance {
		r := rand.New(rand.NewSource(2))
		for range 250 {
			p := shape(r)
			n, _ := p.cells()
			play(t, r, p, garbage(r, p.base+n+r.Intn(3)), 80, leave)
		}
	}
}

// TestPokedCells: the same, while operations are open.
func TestPokedCells(t *testing.T) {
	for _, shape := range byChance {
		r := rand.New(rand.NewSource(3))
		for range 200 {
			p := shape(r)
			poke := func(x *table, i int) {
				if r.Intn(10) == 0 {
					cell, v := r.Intn(x.a.Len()), word(r)
					x.a.Poke(cell, v)
					x.b.Poke(cell, v)
				}
			}
			play(t, r, p, arenaOf(t, p, fillByChance(r, p)).Image(), 100, poke)
		}
	}
}

// TestStoppedArena: at whatever access it is stopped, operations go on with 0 and false (N5).
func TestStoppedArena(t *testing.T) {
	for _, shape := range byChance {
		r := rand.New(rand.NewSource(4))
		for range 250 {
			p, at := shape(r), r.Intn(60)
			stop := func(x *table, i int) {
				if i == at {
					x.a.Stop(api.Fault{Who: 7})
					x.b.Stop(api.Fault{Who: 7})
				}
			}
			play(t, r, p, arenaOf(t, p, fillByChance(r, p)).Image(), 100, stop)
		}
	}
}
