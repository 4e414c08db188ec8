package crew

import (
	"slices"

	"wayfare/api"
	"wayfare/arena"
	"wayfare/dice"
	"wayfare/task"
)

// search is a plan that is laid out: the cells, and the workers that go over them.
type search struct {
	graph   api.Graph
	kind    int
	pool    pool
	arena   *arena.Arena
	workers []*worker
	diary   *diary // nil: nothing is put down
}

// layOut lays out a plan that can be run, over its first cells.
func layOut(g api.Graph, p api.Plan, cells []uint64) *search {
	s := &search{
		graph: api.Graph{N: g.N, Start: slices.Clone(g.Start), To: slices.Clone(g.To), Weight: slices.Clone(g.Weight)},
		kind:  p.Kind,
		pool:  poolAt(poolBase(g), p),
		arena: arenaWith(cells, p.Keep),
	}
	for who := range p.Workers {
		h := s.pool.open(who, diceOf(p, who))
		s.workers = append(s.workers, newWorker(s, who, h))
	}
	return s
}

func arenaWith(cells []uint64, keep bool) *arena.Arena {
	a, _ := arena.New(len(cells), keep) // not refused: the plan was looked at
	for cell, v := range cells {
		if v != 0 {
			a.Poke(cell, v)
		}
	}
	return a
}

// diceOf are those by which a worker draws.
func diceOf(p api.Plan, who int) *dice.Dice {
	var words []uint64
	if who < len(p.Words) {
		words = p.Words[who]
	}
	d, _ := dice.For(p.Seed, who, words)
	return d
}

// labels tells the labels of all vertices.
func (s *search) labels() []uint64 {
	return slices.Clone(s.arena.Image()[firstLabel:poolBase(s.graph)])
}

// held tells all tasks that are held, sorted.
func (s *search) held(cells []uint64) []api.Task {
	out := s.pool.held(cells)
	for _, w := range s.workers {
		out = append(out, w.holds()...)
	}
	task.Sort(out)
	return out
}
