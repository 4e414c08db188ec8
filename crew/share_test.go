package crew_test

import (
	"math"
	"math/rand"
	"slices"
	"testing"

	"wayfare/api"
	"wayfare/crew"
)

// spare makes a list whose spare room is filled with one thing.
func spare[T any](fill T, list ...T) []T {
	room := append(slices.Clone(list), fill, fill, fill)
	return room[:len(list)]
}

// full is a list with its spare room laid open.
func full[T any](l []T) []T { return slices.Clone(l[:cap(l)]) }

// spoil writes over a list and its spare room.
func spoil[T any](l []T, with T) {
	l = l[:cap(l)]
	for i := range l {
		l[i] = with
	}
}

// handed is what New is handed, with spare room everywhere.
type handed struct {
	g api.Graph
	p api.Plan
}

func hand(g api.Graph, p api.Plan) handed {
	g.Start, g.To, g.Weight = spare(77, g.Start...), spare(77, g.To...), spare(77, g.Weight...)
	p.Starts = spare(start(77, 77), p.Starts...)
	rows := make([][]uint64, len(p.Words))
	for i, row := range p.Words {
		rows[i] = spare(77, row...)
	}
	p.Words = spare([]uint64{77}, rows...)
	return handed{g, p}
}

// open is all of it as one list, spare room included.
func (h handed) open() []uint64 {
	var out []uint64
	for _, l := range [][]int{h.g.Start, h.g.To} {
		for _, n := range full(l) {
			out = append(out, uint64(n))
		}
	}
	out = append(out, full(h.g.Weight)...)
	for _, s := range full(h.p.Starts) {
		out = append(out, uint64(s.Vertex), s.Label)
	}
	for _, row := range full(h.p.Words) {
		out = append(out, full(row)...)
	}
	return out
}

func (h handed) spoil() {
	spoil(h.g.Start, -5)
	spoil(h.g.To, 1<<40)
	spoil(h.g.Weight, never)
	spoil(h.p.Starts, start(-1, never))
	for _, row := range h.p.Words {
		spoil(row, 3)
	}
	spoil(h.p.Words, nil)
}

func TestHandedInIsNeitherChangedNorKept(t *testing.T) {
	r := rand.New(rand.NewSource(22))
	for _, pool := range pools {
		for range 20 {
			g := graphByChance(r)
			p := planByChance(t, r, g, pool, true)
			h := hand(g, p)
			was := h.open()
			c := newCrew(t, h.g, h.p)
			crew.Check(h.g, h.p)
			crew.Live(h.g, h.p)
			if !slices.Equal(h.open(), was) {
				t.Fatalf("P0.4, K1: what is handed in is changed: %v, was %v", h.open(), was)
			}
			h.spoil()
			picks := spare(9, 0, 1, 1, 2, -4)
			wasPicks := full(picks)
			c.Run(picks)
			if !slices.Equal(full(picks), wasPicks) {
				t.Fatalf("P0.4, K1: Run changes %v", full(picks))
			}
			spoil(picks, 3)
			c.Finish()
			other := newCrew(t, g, p)
			other.Run([]int{0, 1, 1, 2, -4})
			other.Finish()
			if !slices.Equal(c.Log(), other.Log()) || !slices.Equal(c.First(), other.First()) || !sameView(c.View(), other.View()) {
				t.Fatal("P0.4, K1: what is handed in is kept")
			}
		}
	}
}

// all is what a run tells, to be held against what it tells later.
type all struct {
	first, cells, labels []uint64
	log                  []api.Access
	events               []api.Event
	view                 api.View
	outcome              int
	e                    api.Errno
}

func tellAll(c *crew.Crew) all {
	x := all{first: c.First(), cells: c.Cells(), log: c.Log(), events: c.History(), view: c.View(), outcome: c.Outcome()}
	x.labels, x.e = c.Labels()
	return x
}

func (a all) same(b all) bool {
	return slices.Equal(a.first, b.first) && slices.Equal(a.cells, b.cells) && slices.Equal(a.labels, b.labels) &&
		slices.Equal(a.log, b.log) && slices.Equal(a.events, b.events) && sameView(a.view, b.view) && a.outcome == b.outcome && a.e == b.e
}

// spoil writes over all lists, one behind the other, and tells whether one of a View reaches into another.
func (a all) spoil() bool {
	spoil(a.first, 71)
	spoil(a.cells, 72)
	spoil(a.labels, 73)
	spoil(a.log, api.Access{Cell: 74})
	spoil(a.events, api.Event{At: 75})
	apart := true
	lists := [][]api.Task{a.view.Born, a.view.Ended, a.view.Held}
	for i, l := range lists {
		spoil(l, pair(76, uint64(i)))
	}
	for i, l := range lists {
		apart = apart && !slices.ContainsFunc(l, func(x api.Task) bool { return x != pair(76, uint64(i)) })
	}
	spoil(a.view.Phase, 77)
	return apart
}

// TestHandedOutIsNew: a run in which all that is told is spoilt at once goes as one that is not looked into; and refused calls change nothing.
func TestHandedOutIsNew(t *testing.T) {
	r := rand.New(rand.NewSource(23))
	for _, pool := range pools {
		for i := range 12 {
			g := graphByChance(r)
			p := planByChance(t, r, g, pool, i%3 > 0)
			c, other := newCrew(t, g, p), newCrew(t, g, p)
			for j, w := 0, 0; c.Outcome() == api.RunOpen && j < 4000; j++ {
				if w = pickByChance(r, w); j > 2000 {
					w = j
				}
				if j < 300 {
					want := tellAll(c)
					if !tellAll(c).spoil() {
						t.Fatal("P0.4, K1: two lists of a View share")
					}
					if got := tellAll(c); !got.same(want) {
						t.Fatalf("P0.4, K1: what is handed out is shared: %v, want %v", got, want)
					}
				}
				c.Pick(w)
				other.Pick(w)
			}
			c.Finish()
			other.Finish()
			tellAll(c).spoil()
			if !tellAll(c).same(tellAll(other)) {
				t.Fatal("P0.4, P0.5: looking is seen")
			}
		}
	}
}

// TestEmptyLists: nil and an empty list are alike, inside structs too.
func TestEmptyLists(t *testing.T) {
	for _, pool := range pools {
		p := planOf(pool, 2)
		p.Starts = nil
		var seen []all
		for _, x := range []handed{
			{api.Graph{N: 2, Start: []int{0, 0, 0}}, p},
			{api.Graph{N: 2, Start: []int{0, 0, 0}, To: []int{}, Weight: []uint64{}}, p},
		} {
			for _, starts := range [][]api.Start{nil, {}} {
				for _, words := range [][][]uint64{nil, {}, {nil}, {{}}} {
					x.p.Starts, x.p.Words = starts, words
					c := newCrew(t, x.g, x.p)
					c.Finish()
					seen = append(seen, tellAll(c))
				}
			}
		}
		for _, x := range seen {
			if !x.same(seen[0]) || x.outcome != api.RunDone {
				t.Errorf("P0.3: the pool %d: %v, want %v", pool, x, seen[0])
			}
		}
	}
}

// TestTwoRuns know nothing of one another.
func TestTwoRuns(t *testing.T) {
	for _, pool := range pools {
		g, p := small(), planOf(pool, 2)
		alone := newCrew(t, g, p)
		alone.Finish()
		one, two := newCrew(t, g, p), newCrew(t, g, p)
		for i := 0; one.Outcome() == api.RunOpen || two.Outcome() == api.RunOpen; i++ {
			one.Pick(i)
			two.Pick(i)
		}
		if !tellAll(one).same(tellAll(alone)) || !tellAll(two).same(tellAll(alone)) {
			t.Errorf("P0.5: the pool %d: two runs are mixed", pool)
		}
	}
}

// TestWhateverIsGiven is P0.1 and K1: no call panics, and every call ends.
func TestWhateverIsGiven(t *testing.T) {
	r := rand.New(rand.NewSource(24))
	number := func() int {
		switch r.Intn(24) {
		case 0:
			return math.MaxInt
		case 1:
			return math.MinInt
		case 2:
			return -1
		}
		return 1 + r.Intn(3)
	}
	numbers := func() []int {
		l := make([]int, r.Intn(4))
		for i := range l {
			l[i] = number()
		}
		return l
	}
	words := func() []uint64 {
		l := make([]uint64, r.Intn(4))
		for i := range l {
			l[i] = uint64(number())
		}
		return l
	}
	taken := 0
	for range 20000 {
		g := small()
		if r.Intn(8) == 0 {
			g = api.Graph{N: number(), Start: numbers(), To: numbers(), Weight: words()}
		}
		p := api.Plan{
			Kind: number(), Workers: number(), Pool: number(), Per: number(), Cap: number(), Arity: 1 + r.Intn(3), In: number(), Out: number(),
			Stick: number(), Tries: number(), Slots: number(), Width: uint64(number()), Seed: r.Uint64(), Keep: r.Intn(2) == 0,
		}
		for range r.Intn(3) {
			p.Starts = append(p.Starts, start(r.Intn(4), uint64(number())))
			p.Words = append(p.Words, words())
		}
		e := crew.Check(g, p)
		c, f := crew.New(g, p)
		if e != f || (c == nil) != (e != api.OK) {
			t.Fatalf("K3: Check = %d, New = %d", e, f)
		}
		if c == nil {
			continue
		}
		taken++
		c.Run(numbers())
		c.Pick(number())
		c.Finish()
		if tellAll(c).outcome == api.RunOpen {
			t.Fatal("P0.13: Finish comes to no end")
		}
	}
	if taken < 500 {
		t.Errorf("only %d runs", taken)
	}
}
