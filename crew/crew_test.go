package crew_test

import (
	"fmt"
	"slices"
	"strings"
	"testing"

	"wayfare/api"
	"wayfare/arena"
	"wayfare/crew"
	"wayfare/graph"
)

const never uint64 = api.Never

var (
	kinds = []int{api.KindSum, api.KindHops, api.KindMax, api.KindLabel}
	pools = []int{api.PoolMulti, api.PoolRing, api.PoolSteal, api.PoolBucket}
)

func start(vertex int, label uint64) api.Start { return api.Start{Vertex: vertex, Label: label} }

func edge(from, to int, weight uint64) api.Edge {
	return api.Edge{From: from, To: to, Weight: weight}
}

func pair(key, load uint64) api.Task { return api.Task{Key: key, Load: load} }

// build makes a graph of edges that are right.
func build(n int, edges ...api.Edge) api.Graph {
	g, e, at := graph.Build(api.Roads{N: n, Edges: edges})
	if e != api.OK {
		panic(at)
	}
	return g
}

// small is the graph of the chapter's examples.
func small() api.Graph {
	return build(3, edge(0, 1, 5), edge(0, 2, 1), edge(2, 1, 2))
}

// star has edges from the vertex 0 to each of so many leaves.
func star(leaves int) api.Graph {
	var edges []api.Edge
	for i := range leaves {
		edges = append(edges, edge(0, i+1, 1))
	}
	return build(leaves+1, edges...)
}

// planOf has room for what small graphs need, whatever the pool.
func planOf(pool, workers int) api.Plan {
	return api.Plan{
		Kind: api.KindSum, Starts: []api.Start{start(0, 0)}, Workers: workers, Pool: pool,
		Per: 2, Cap: 64, Arity: 2, In: 2, Out: 2, Stick: 2, Tries: 1, Slots: 3, Width: 2, Seed: 7, Keep: true,
	}
}

func newCrew(t *testing.T, g api.Graph, p api.Plan) *crew.Crew {
	t.Helper()
	c, e := crew.New(g, p)
	if c == nil || e != api.OK {
		t.Fatalf("K3: New = %d", e)
	}
	return c
}

// text is an access as the chapter's examples write it.
func text(x api.Access) string {
	word := func(v uint64) string {
		if v == never {
			return "Never"
		}
		return fmt.Sprint(v)
	}
	switch {
	case x.Kind == api.AccLoad:
		return fmt.Sprintf("load %d: %s", x.Cell, word(x.Seen))
	case x.Kind == api.AccStore:
		return fmt.Sprintf("store %d: %s", x.Cell, word(x.Put))
	case x.Kind == api.AccAdd:
		return fmt.Sprintf("add %d, %d: %d was there", x.Cell, int64(x.Put), x.Seen)
	case x.Kind == api.AccCas && x.Ok:
		return fmt.Sprintf("cas %d, %s to %s", x.Cell, word(x.Want), word(x.Put))
	}
	return fmt.Sprintf("no cas %d", x.Cell)
}

func texts(log []api.Access) string {
	var out []string
	for _, x := range log {
		out = append(out, text(x))
	}
	return strings.Join(out, "; ")
}

// sameView tells whether two are alike; nil and empty lists are.
func sameView(a, b api.View) bool {
	return slices.Equal(a.Born, b.Born) && slices.Equal(a.Ended, b.Ended) && slices.Equal(a.Held, b.Held) &&
		a.Pend == b.Pend && a.Done == b.Done && a.Fault == b.Fault && slices.Equal(a.Phase, b.Phase)
}

func wantView(t *testing.T, c *crew.Crew, want api.View) {
	t.Helper()
	if v := c.View(); !sameView(v, want) {
		t.Errorf("K6: View = %v, want %v", v, want)
	}
}

func wantLabels(t *testing.T, c *crew.Crew, want ...uint64) {
	t.Helper()
	if l, e := c.Labels(); e != api.OK || !slices.Equal(l, want) || c.Outcome() != api.RunDone {
		t.Errorf("K5: Labels = %v, %d, want %v; the outcome %d", l, e, want, c.Outcome())
	}
}

// TestExampleByStep: the chapter's table, with the phase ahead of each step.
func TestExampleByStep(t *testing.T) {
	p := planOf(api.PoolRing, 1)
	p.Cap = 4
	c := newCrew(t, small(), p)
	first := []uint64{1, 0, 0, 0, never, never, 1, 0, 1, 0, 0, 1, 0, 0, 2, 0, 0, 3, 0, 0}
	if !slices.Equal(c.First(), first) || !slices.Equal(c.Cells(), first) || len(c.Log()) != 0 || len(c.History()) != 0 {
		t.Errorf("K7: at the start: %v, %v, want %v", c.First(), c.Cells(), first)
	}
	wantView(t, c, api.View{Born: []api.Task{{}}, Held: []api.Task{{}}, Pend: 1, Phase: []int{api.PhAsk}})
	for _, row := range []struct {
		phase    int
		accesses string
	}{
		{api.PhAsk, "load 2: 0; load 1: 0"},
		{api.PhTake, "load 7: 0; load 8: 1; cas 7, 0 to 1; load 9: 0; load 10: 0; store 8: 4"},
		{api.PhLook, "load 3: 0"},
		{api.PhRead, "load 4: Never"},
		{api.PhLower, "cas 4, Never to 5"},
		{api.PhRaise, "add 0, 1: 1 was there"},
		{api.PhInsert, "load 6: 1; load 11: 1; cas 6, 1 to 2; store 12: 5; store 13: 1; store 11: 2"},
		{api.PhRead, "load 5: Never"},
		{api.PhLower, "cas 5, Never to 1"},
		{api.PhRaise, "add 0, 1: 2 was there"},
		{api.PhInsert, "load 6: 2; load 14: 2; cas 6, 2 to 3; store 15: 1; store 16: 2; store 14: 3"},
		{api.PhEnd, "add 0, -1: 3 was there"},
	} {
		from := len(c.Log())
		for c.View().Phase[0] == row.phase {
			if turn := c.Pick(0); turn != (api.Turn{Moved: true}) {
				t.Fatalf("K4: a pick is %v", turn)
			}
		}
		if got := texts(c.Log()[from:]); got != row.accesses {
			t.Errorf("the phase %d: %s, want %s", row.phase, got, row.accesses)
		}
		if len(c.Log()) == 11 {
			both := []api.Task{pair(0, 0), pair(5, 1)}
			wantView(t, c, api.View{Born: both, Held: both, Pend: 1, Phase: []int{api.PhRaise}})
		}
	}
	wantView(t, c, api.View{
		Born: []api.Task{pair(0, 0), pair(1, 2), pair(5, 1)}, Ended: []api.Task{pair(0, 0)}, Held: []api.Task{pair(1, 2), pair(5, 1)},
		Pend: 2, Phase: []int{api.PhAsk},
	})
	if l, e := c.Labels(); l != nil || e != api.ErrState || c.Outcome() != api.RunOpen {
		t.Errorf("K5: of an open run: %v, %d; the outcome %d", l, e, c.Outcome())
	}
	if n := c.Finish(); n == 0 || n != len(c.Log())-28 {
		t.Errorf("K4: Finish = %d, and %d accesses", n, len(c.Log())-28)
	}
	wantLabels(t, c, 0, 3, 1)
	all := []api.Task{pair(0, 0), pair(1, 2), pair(3, 1), pair(5, 1)}
	wantView(t, c, api.View{Born: all, Ended: all, Done: 1, Phase: []int{api.PhOver}})
	wantExampleTakes(t, c.History())
	if !slices.Equal(c.First(), first) {
		t.Errorf("K7: First changes: %v", c.First())
	}
}

// wantExampleTakes: in which order the example's tasks are taken.
func wantExampleTakes(t *testing.T, events []api.Event) {
	t.Helper()
	var taken []api.Task
	for _, x := range events {
		if x.Kind == api.EvTask {
			taken = append(taken, x.Task)
		}
	}
	if !slices.Equal(taken, []api.Task{pair(0, 0), pair(5, 1), pair(1, 2), pair(3, 1)}) {
		t.Errorf("K8: tasks are taken as %v", taken)
	}
}

// TestExamplesOfEnds: those that the chapter tells behind its table.
func TestExamplesOfEnds(t *testing.T) {
	for _, pool := range pools {
		for _, workers := range []int{1, 2, 7} {
			p := planOf(pool, workers)
			p.Starts = nil
			c := newCrew(t, small(), p)
			wantView(t, c, api.View{Done: 1, Phase: slices.Repeat([]int{api.PhAsk}, workers)})
			if n := c.Finish(); n != 2*workers || len(c.Log()) != n || len(c.History()) != 0 {
				t.Errorf("K4: without Starts: %d picks, %d accesses", n, len(c.Log()))
			}
			wantLabels(t, c, never, never, never)
			wantView(t, c, api.View{Done: 1, Phase: slices.Repeat([]int{api.PhOver}, workers)})
		}
	}
	p := planOf(api.PoolRing, 1)
	p.Cap = 2
	c := newCrew(t, small(), p)
	c.Finish()
	wantLabels(t, c, 0, 3, 1)

	p.Kind, p.Starts = api.KindLabel, []api.Start{start(0, 0), start(1, 1), start(2, 2)}
	if c, e := crew.New(small(), p); c != nil || e != api.ErrFull {
		t.Errorf("K2: three tasks in a ring of two: %d", e)
	}
}

// TestPicks: numbers of any size; those that do nothing count.
func TestPicks(t *testing.T) {
	c := newCrew(t, small(), planOf(api.PoolSteal, 3))
	const least, greatest = -1 << 63, 1<<63 - 1
	for i, x := range []struct{ pick, who int }{{0, 0}, {4, 1}, {-1, 2}, {-3, 0}, {least, 1}, {greatest, 1}, {-2, 1}} {
		if turn := c.Pick(x.pick); turn != (api.Turn{Who: x.who, Moved: true}) {
			t.Errorf("K4: Pick(%d) = %v", x.pick, turn)
		}
		if l := c.Log(); len(l) != i+1 || l[i].Who != x.who {
			t.Errorf("K4: Pick(%d): %d accesses", x.pick, len(l))
		}
	}
	c.Finish()
	cells, log, events := c.Cells(), len(c.Log()), len(c.History())
	for who := range 3 {
		if turn := c.Pick(who - 3); turn != (api.Turn{Who: who, Over: true}) {
			t.Errorf("K4: a pick of one that is over = %v", turn)
		}
	}
	if c.Finish() != 0 || c.Run([]int{0, 1, 2}) != 0 || len(c.Log()) != log || len(c.History()) != events || !slices.Equal(c.Cells(), cells) {
		t.Error("K4: something goes on behind the end")
	}
}

// TestRunCounts: those picks too that do nothing, as long as one worker is not over.
func TestRunCounts(t *testing.T) {
	p := planOf(api.PoolRing, 2)
	p.Starts = nil
	c := newCrew(t, small(), p)
	if n := c.Run(nil); n != 0 {
		t.Errorf("K4: Run of nothing = %d", n)
	}
	if n := c.Run([]int{0, 0, 0, 0, 2}); n != 5 || len(c.Log()) != 2 || c.Outcome() != api.RunOpen {
		t.Errorf("K4: Run = %d, %d accesses, the outcome %d", n, len(c.Log()), c.Outcome())
	}
	if n := c.Run([]int{0, -1, 0, 1, 0, 1, 1}); n != 4 || len(c.Log()) != 4 || c.Outcome() != api.RunDone {
		t.Errorf("K4: Run = %d, %d accesses, the outcome %d", n, len(c.Log()), c.Outcome())
	}
	// turns begin with 0, whoever was picked last
	c = newCrew(t, small(), p)
	c.Run([]int{0})
	if n := c.Finish(); n != 4 || c.Log()[1].Who != 0 || c.Log()[2].Who != 1 {
		t.Errorf("K4: Finish = %d", n)
	}
}

// TestTurnsOfTheLast: a worker's last step tells that it is over.
func TestTurnsOfTheLast(t *testing.T) {
	p := planOf(api.PoolBucket, 2)
	p.Starts = nil
	c := newCrew(t, small(), p)
	c.Pick(1)
	if turn := c.Pick(1); turn != (api.Turn{Who: 1, Moved: true, Over: true}) {
		t.Errorf("K4: the last step: %v", turn)
	}
}

// TestWithoutKeep: nothing is kept, and nothing else is changed.
func TestWithoutKeep(t *testing.T) {
	for _, pool := range pools {
		p := planOf(pool, 2)
		kept := newCrew(t, small(), p)
		p.Keep = false
		c := newCrew(t, small(), p)
		for i := 0; c.Outcome() == api.RunOpen; i++ {
			if a, b := c.Pick(i/3), kept.Pick(i/3); a != b || !sameView(c.View(), kept.View()) {
				t.Fatalf("K7: Keep changes the run: %v, %v", c.View(), kept.View())
			}
		}
		if len(c.Log()) != 0 || len(c.History()) != 0 || !slices.Equal(c.Cells(), kept.Cells()) || !slices.Equal(c.First(), kept.First()) {
			t.Error("K7: without Keep something is kept")
		}
		wantLabels(t, c, 0, 3, 1)
	}
}

// TestWhole: the document's examples of the whole, as far as a run is seen in them.
func TestWhole(t *testing.T) {
	p := api.Plan{Kind: api.KindSum, Starts: []api.Start{start(0, 0)}, Workers: 2, Pool: api.PoolRing, Cap: 8, Keep: true}
	c := newCrew(t, build(3, edge(0, 1, 5), edge(0, 2, 1), edge(2, 1, 2)), p)
	if n := c.Run([]int{0, 1, 0, 1}); n != 4 || len(c.Log()) != 4 {
		t.Errorf("the whole, 1: %d picks", n)
	}
	if n := c.Finish(); n != 104 || len(c.Log()) != 107 {
		t.Errorf("the whole, 1: %d picks more, %d steps", n, len(c.Log()))
	}
	wantLabels(t, c, 0, 3, 1)

	p = api.Plan{Kind: api.KindMax, Starts: []api.Start{start(0, 0)}, Workers: 2, Pool: api.PoolMulti, Per: 1, Cap: 8, Arity: 2, Out: 1, Stick: 1, Tries: 1, Seed: 5, Keep: true}
	c = newCrew(t, build(4, edge(0, 1, 3), edge(1, 2, 1), edge(2, 3, 1), edge(0, 3, 9)), p)
	for i := range 9 {
		c.Pick(i)
	}
	wantView(t, c, api.View{Born: []api.Task{{}}, Held: []api.Task{{}}, Pend: 1, Phase: []int{api.PhTake, api.PhTake}})
	if n := c.Finish(); n != 183 || len(c.Log()) != 190 {
		t.Errorf("the whole, 2: %d picks more, %d steps", n, len(c.Log()))
	}
	wantLabels(t, c, 0, 3, 3, 3)
	if got := texts(c.Log()[187:]); got != "load 27: Never; load 2: 0; load 1: 1" {
		t.Errorf("the whole, 2: the last accesses: %s", got)
	}

	p = api.Plan{Kind: api.KindHops, Starts: []api.Start{start(0, 0)}, Workers: 2, Pool: api.PoolSteal, Cap: 2, Tries: 1}
	c = newCrew(t, star(5), p)
	moved := 0
	for range 40 {
		if c.Pick(0).Moved {
			moved++
		}
	}
	if moved != 32 || c.Outcome() != api.RunOpen {
		t.Errorf("the whole, 3: %d steps", moved)
	}
	if n := c.Finish(); n != 2 || c.Outcome() != api.RunFailed {
		t.Errorf("the whole, 3: %d picks more, the outcome %d", n, c.Outcome())
	}
	four := []api.Task{pair(0, 0), pair(1, 1), pair(1, 2), pair(1, 3)}
	wantView(t, c, api.View{Born: four, Held: four, Pend: 4, Fault: 1, Phase: []int{api.PhOver, api.PhOver}})
	if l, e := c.Labels(); l != nil || e != api.ErrState {
		t.Errorf("the whole, 3: %v, %d", l, e)
	}
}

// TestWholeHistory: the fourth of these examples, without the task at the start.
func TestWholeHistory(t *testing.T) {
	p := api.Plan{Kind: api.KindSum, Starts: []api.Start{start(0, 0)}, Workers: 1, Pool: api.PoolRing, Cap: 2, Keep: true}
	c := newCrew(t, build(3, edge(0, 1, 4), edge(1, 2, 4)), p)
	if n := c.Finish(); n != 51 || len(c.Log()) != 51 {
		t.Errorf("the whole, 4: %d picks, %d steps", n, len(c.Log()))
	}
	want := []api.Event{
		{At: 2, Kind: api.EvTake}, {At: 8, Kind: api.EvTask},
		{At: 12, Kind: api.EvInsert, Task: pair(4, 1)}, {At: 18, Kind: api.EvInserted},
		{At: 21, Kind: api.EvTake}, {At: 27, Kind: api.EvTask, Task: pair(4, 1)},
		{At: 31, Kind: api.EvInsert, Task: pair(8, 2)}, {At: 37, Kind: api.EvInserted},
		{At: 40, Kind: api.EvTake}, {At: 46, Kind: api.EvTask, Task: pair(8, 2)},
	}
	if got := c.History(); !slices.Equal(got, want) {
		t.Errorf("K8: %v, want %v", got, want)
	}
	if at, end := arena.Replay(c.First(), c.Log()); at != -1 || !slices.Equal(end, c.Cells()) {
		t.Errorf("K15: Replay = %d", at)
	}
}
