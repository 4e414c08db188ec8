package history_test

import (
	"math/rand"
	"slices"
	"testing"

	"wayfare/api"
	"wayfare/arena"
	"wayfare/crew"
	"wayfare/graph"
	"wayfare/history"
)

var pools = []int{api.PoolMulti, api.PoolRing, api.PoolSteal, api.PoolBucket}

// run is one of which the history is looked at.
type run struct {
	plan  api.Plan
	crew  *crew.Crew
	ahead []api.Event // the tasks at the start, inserted by one who is no worker
}

func newRun(t *testing.T, g api.Graph, p api.Plan) *run {
	t.Helper()
	c, e := crew.New(g, p)
	if e != api.OK {
		t.Fatalf("New = %d", e)
	}
	x := &run{plan: p, crew: c}
	for v, label := range c.First()[3 : 3+g.N] {
		if label != api.Never {
			x.ahead = append(x.ahead, insert(p.Workers, label, uint64(v)), inserted(p.Workers))
		}
	}
	return x
}

func (x *run) spans(t *testing.T) []api.Span {
	t.Helper()
	return spansOf(t, slices.Concat(x.ahead, x.crew.History())...)
}

// look is P0.19 at a point of a run, with P0.11 as the turns tell it: what was put in and not taken out is held.
func (x *run) look(t *testing.T) {
	t.Helper()
	spans := x.spans(t)
	order, ok, e := history.Bag(spans)
	if !ok || e != api.OK {
		t.Fatalf("P0.19: the pool %d: no bag's: %v, %d: %v, %v", x.plan.Pool, ok, e, spans, x.plan)
	}
	if fine, e := history.Follow(spans, order, false); !fine || e != api.OK {
		t.Fatalf("P0.19: the pool %d: Follow = %v, %d", x.plan.Pool, fine, e)
	}
	if r, e := history.Ranks(spans, order); e != api.OK || r != ranked(spans, order) {
		t.Fatalf("H7: the pool %d: %v, %d", x.plan.Pool, r, e)
	}
	if x.plan.Pool == api.PoolRing {
		order, ok, e := history.Queue(spans)
		if !ok || e != api.OK || !bears(spans, order, true) {
			p, _, _ := history.Why(spans)
			t.Fatalf("P0.19: a ring's is no queue's: %v, %v, %d: %v", p, ok, e, spans)
		}
	}
	v := x.crew.View()
	in := map[api.Task]int{}
	for _, i := range order {
		if spans[i].Insert {
			in[spans[i].Task]++
		} else {
			in[spans[i].Task]--
		}
	}
	for task, n := range in {
		if n > 0 && !slices.Contains(v.Held, task) || n < 0 || !slices.Contains(v.Born, task) {
			t.Fatalf("P0.11: the pool %d: %v was put in %d times more than taken: %v", x.plan.Pool, task, n, v)
		}
	}
	for _, task := range v.Ended {
		if n, known := in[task]; !known || n != 0 {
			t.Fatalf("P0.11: the pool %d: %v has ended, and was not taken", x.plan.Pool, task)
		}
	}
}

// end looks at a run that is over: P0.16, and a text of its history.
func (x *run) end(t *testing.T) {
	t.Helper()
	x.crew.Finish()
	x.look(t)
	if at, cells := arena.Replay(x.crew.First(), x.crew.Log()); at != -1 || !slices.Equal(cells, x.crew.Cells()) {
		t.Fatalf("P0.16: the pool %d: Replay = %d", x.plan.Pool, at)
	}
	wantBack(t, slices.Concat(x.ahead, x.crew.History()))
	if x.crew.Outcome() != api.RunDone {
		return
	}
	spans := x.spans(t)
	order, _, _ := history.Bag(spans)
	r, _ := history.Ranks(spans, order)
	if born := len(x.crew.View().Born); r.Takes != born || len(order) != 2*born {
		t.Fatalf("P0.11: the pool %d: %d born, %d taken, %d turns", x.plan.Pool, born, r.Takes, len(order))
	}
}

func graphByChance(r *rand.Rand) api.Graph {
	n := 1 + r.Intn(7)
	var edges []api.Edge
	for range r.Intn(4 * n) {
		edges = append(edges, api.Edge{From: r.Intn(n), To: r.Intn(n), Weight: uint64(r.Intn(5))})
	}
	g, _, _ := graph.Build(api.Roads{N: n, Edges: edges})
	return g
}

// planByChance is a plan with room for all, or with the least that lets the tasks at the start in.
func planByChance(r *rand.Rand, g api.Graph, pool int, roomy bool) api.Plan {
	p := api.Plan{
		Kind: 1 + r.Intn(4), Workers: 1 + r.Intn(4), Pool: pool,
		Per: 1 + r.Intn(2), Cap: 1, Arity: 2 + r.Intn(2), In: r.Intn(4), Out: 1 + r.Intn(3), Stick: 1 + r.Intn(3), Tries: 1 + r.Intn(3),
		Slots: 1 + r.Intn(4), Width: 1 + uint64(r.Intn(4)), Seed: r.Uint64(), Keep: true,
	}
	for range 1 + r.Intn(3) {
		p.Starts = append(p.Starts, api.Start{Vertex: r.Intn(g.N), Label: uint64(r.Intn(6))})
	}
	if roomy {
		p.Cap = 256
	}
	for crew.Check(g, p) != api.OK {
		p.Cap++
	}
	return p
}

// TestRuns: the histories of runs, at every point.
func TestRuns(t *testing.T) {
	for _, pool := range pools {
		r := rand.New(rand.NewSource(19))
		var ends [3]int
		for i := range 120 {
			g := graphByChance(r)
			x := newRun(t, g, planByChance(r, g, pool, i%2 == 0))
			x.look(t)
			for n, events := 0, 0; events < 120 && x.crew.Outcome() == api.RunOpen; {
				if r.Intn(4) == 0 {
					n = r.Intn(x.plan.Workers)
				}
				x.crew.Pick(n)
				if now := len(x.crew.History()); now > events { // between two events the history is the same
					x.look(t)
					events = now
				}
			}
			x.end(t)
			ends[x.crew.Outcome()]++
		}
		if ends[api.RunDone] < 40 || ends[api.RunFailed] < 5 {
			t.Errorf("the pool %d: %d runs are done, %d failed", pool, ends[api.RunDone], ends[api.RunFailed])
		}
	}
}

// TestBursts: all scripts in which one worker goes on for a while, then another, then all in turns.
func TestBursts(t *testing.T) {
	g, _, _ := graph.Build(api.Roads{N: 4, Edges: []api.Edge{{From: 0, To: 1, Weight: 2}, {From: 0, To: 2, Weight: 1}, {From: 1, To: 3, Weight: 1}, {From: 2, To: 3, Weight: 2}, {From: 2, To: 1}}})
	for _, pool := range pools {
		p := api.Plan{
			Kind: api.KindSum, Starts: []api.Start{{Vertex: 0}}, Workers: 2, Pool: pool,
			Per: 1, Cap: 8, Arity: 2, In: 1, Out: 2, Stick: 1, Tries: 1, Slots: 3, Width: 2, Seed: 7, Keep: true,
		}
		for a := range 40 {
			for b := range 20 {
				x := newRun(t, g, p)
				x.crew.Run(slices.Repeat([]int{0}, 2*a))
				x.look(t)
				for range b {
					x.crew.Run([]int{1, 1, 1})
					x.look(t)
				}
				x.end(t)
			}
		}
	}
}

// TestQueueAlone: what is a bag's need be no queue's: the other pools have such runs.
func TestQueueAlone(t *testing.T) {
	r := rand.New(rand.NewSource(23))
	for _, pool := range []int{api.PoolMulti, api.PoolSteal, api.PoolBucket} {
		found := false
		for range 100 {
			g := graphByChance(r)
			x := newRun(t, g, planByChance(r, g, pool, true))
			x.crew.Finish()
			spans := x.spans(t)
			_, isQueue, _ := history.Queue(spans)
			p, isBad, _ := history.Why(spans)
			if isQueue == isBad || isBad && p.Kind != api.PatOrder {
				t.Fatalf("H10: the pool %d: %v, %v", pool, isQueue, p)
			}
			found = found || isBad
		}
		if !found {
			t.Errorf("the pool %d has queues' histories alone", pool)
		}
	}
}
