package crew_test

import (
	"math/rand"
	"slices"
	"testing"

	"wayfare/api"
	"wayfare/crew"
)

// graphByChance has weights that often make labels alike.
func graphByChance(r *rand.Rand) api.Graph {
	n := 1 + r.Intn(7)
	var edges []api.Edge
	for range r.Intn(4 * n) {
		edges = append(edges, edge(r.Intn(n), r.Intn(n), uint64(r.Intn(5))))
	}
	if r.Intn(20) == 0 {
		n, edges = 0, nil
	}
	return build(n, edges...)
}

// planByChance is a plan that may be, roomy or with the least room that lets the tasks at the start in.
func planByChance(t *testing.T, r *rand.Rand, g api.Graph, pool int, roomy bool) api.Plan {
	t.Helper()
	p := api.Plan{
		Kind: kinds[r.Intn(4)], Workers: 1 + r.Intn(4), Pool: pool,
		Per: 1 + r.Intn(2), Cap: 1, Arity: 2 + r.Intn(2), In: r.Intn(4), Out: 1 + r.Intn(3), Stick: 1 + r.Intn(3), Tries: 1 + r.Intn(3),
		Slots: 1 + r.Intn(4), Width: 1 + uint64(r.Intn(4)), Seed: r.Uint64(), Keep: true,
	}
	for range r.Intn(4) {
		if g.N > 0 {
			p.Starts = append(p.Starts, start(r.Intn(g.N), uint64(r.Intn(6))))
		}
	}
	if p.Kind == api.KindLabel && r.Intn(2) == 0 {
		p.Starts = nil
		for v := range g.N {
			p.Starts = append(p.Starts, start(v, uint64(v)))
		}
	}
	for range r.Intn(p.Workers + 2) {
		words := make([]uint64, r.Intn(6))
		for i := range words {
			words[i] = r.Uint64()
		}
		p.Words = append(p.Words, words)
	}
	if roomy {
		p.Cap = 256
		return p
	}
	for crew.Check(g, p) != api.OK {
		if p.Cap++; p.Cap > 100 {
			t.Fatalf("K2: Check = %d", crew.Check(g, p))
		}
	}
	return p
}

// wantTold holds a run against its telling.
func wantTold(t *testing.T, c *crew.Crew, run *told) {
	t.Helper()
	if got, want := c.View(), run.view(); !sameView(got, want) {
		t.Fatalf("K6: View = %v, want %v", got, want)
	}
	if got, want := c.Outcome(), run.outcome(); got != want {
		t.Fatalf("K5: Outcome = %d, want %d", got, want)
	}
}

// wantToldWhole holds all that is kept against the telling.
func wantToldWhole(t *testing.T, c *crew.Crew, run *told) {
	t.Helper()
	if !slices.Equal(c.First(), run.first) || !slices.Equal(c.Cells(), run.a.Image()) {
		t.Fatalf("K7: cells %v, want %v", c.Cells(), run.a.Image())
	}
	if !slices.Equal(c.Log(), run.a.Log()) {
		t.Fatalf("K7: accesses\n%v, want\n%v", texts(c.Log()), texts(run.a.Log()))
	}
	if !slices.Equal(c.History(), run.events) {
		t.Fatalf("K8: events\n%v, want\n%v", c.History(), run.events)
	}
}

// pickByChance goes on with one worker for a while, then with another.
func pickByChance(r *rand.Rand, last int) int {
	if r.Intn(4) > 0 {
		return last
	}
	return r.Intn(12) - 4
}

// TestAgainstTheChapter: whatever the plan, the script and the draws: each access, phase, event, task and turn is as the chapter tells it.
func TestAgainstTheChapter(t *testing.T) {
	for _, pool := range pools {
		r := rand.New(rand.NewSource(17))
		var ends [3]int
		for i := range 500 {
			g := graphByChance(r)
			p := planByChance(t, r, g, pool, i%2 == 0)
			c, run := newCrew(t, g, p), tellRun(t, g, p)
			wantTold(t, c, run)
			for j, w := 0, 0; c.Outcome() == api.RunOpen; j++ {
				if w = pickByChance(r, w); j > 3000 {
					w = j
				}
				if got, want := c.Pick(w), run.pick(w); got != want {
					t.Fatalf("K4: Pick(%d) = %v, want %v", w, got, want)
				}
				if wantTold(t, c, run); j%50 == 0 {
					wantToldWhole(t, c, run)
				}
				if j > 20000 {
					t.Fatal("P0.13: no end")
				}
			}
			wantToldWhole(t, c, run)
			ends[c.Outcome()]++
		}
		if ends[api.RunDone] < 100 || ends[api.RunFailed] < 20 {
			t.Errorf("the pool %d: only %d runs are done, %d failed", pool, ends[api.RunDone], ends[api.RunFailed])
		}
	}
}

// TestRunAndFinishAgainstTheChapter: they make the picks that they are to make, and count them.
func TestRunAndFinishAgainstTheChapter(t *testing.T) {
	for _, pool := range pools {
		r := rand.New(rand.NewSource(18))
		for i := range 150 {
			g := graphByChance(r)
			p := planByChance(t, r, g, pool, i%2 == 0)
			c, run := newCrew(t, g, p), tellRun(t, g, p)
			picks := make([]int, r.Intn(150))
			for j, w := 0, 0; j < len(picks); j++ {
				w = pickByChance(r, w)
				picks[j] = w
			}
			made := 0
			for ; made < len(picks) && run.outcome() == api.RunOpen; made++ {
				run.pick(picks[made])
			}
			if n := c.Run(picks); n != made {
				t.Fatalf("K4: Run = %d, want %d", n, made)
			}
			wantTold(t, c, run)
			made = 0
			for ; run.outcome() == api.RunOpen; made++ {
				run.pick(made)
			}
			if n := c.Finish(); n != made {
				t.Fatalf("K4: Finish = %d, want %d", n, made)
			}
			wantTold(t, c, run)
			wantToldWhole(t, c, run)
		}
	}
}

// TestTheMostWorkers: 64 of them over each pool.
func TestTheMostWorkers(t *testing.T) {
	r := rand.New(rand.NewSource(19))
	for _, pool := range pools {
		g := graphByChance(r)
		p := planByChance(t, r, g, pool, true)
		p.Workers = api.MaxWorkers
		c, run := newCrew(t, g, p), tellRun(t, g, p)
		for j := 0; run.outcome() == api.RunOpen; j++ {
			if w := j * j; c.Pick(w) != run.pick(w) {
				t.Fatal("K4: a turn is another")
			}
			if j > 20000 {
				c.Finish()
				for k := 0; run.outcome() == api.RunOpen; k++ {
					run.pick(k)
				}
			}
		}
		wantTold(t, c, run)
		wantToldWhole(t, c, run)
	}
}
