package seek_test

import (
	"math"
	"math/rand/v2"
	"slices"
	"testing"

	"wayfare/api"
	"wayfare/graph"
	"wayfare/seek"
)

func TestWaysOfTheExamples(t *testing.T) {
	g := small()
	for _, c := range []struct {
		kind, from, to int
		want           api.Way
		e              api.Errno
	}{
		{api.KindSum, 0, 1, api.Way{Label: 3, Edges: []int{1, 3}}, api.OK},
		{api.KindHops, 0, 1, api.Way{Label: 1, Edges: []int{0}}, api.OK},
		{api.KindMax, 0, 1, api.Way{Label: 2, Edges: []int{1, 3}}, api.OK},
		{api.KindSum, 2, 2, api.Way{}, api.OK},
		{api.KindMax, 3, 3, api.Way{}, api.OK},
		{api.KindSum, 1, 0, api.Way{}, api.ErrReach},
		{api.KindHops, 0, 3, api.Way{}, api.ErrReach},
		{api.KindLabel, 0, 0, api.Way{}, api.ErrKind},
		{api.KindSum, 0, 4, api.Way{}, api.ErrVertex},
		{api.KindSum, -1, 0, api.Way{}, api.ErrVertex},
		{api.KindSum, math.MinInt, math.MaxInt, api.Way{}, api.ErrVertex},
		{0, 9, 9, api.Way{}, api.ErrKind},
		{math.MaxInt, 0, 1, api.Way{}, api.ErrKind},
		{math.MinInt, 0, 1, api.Way{}, api.ErrKind},
	} {
		if w, e := seek.Both(g, c.kind, c.from, c.to); w.Label != c.want.Label || !slices.Equal(w.Edges, c.want.Edges) || e != c.e {
			t.Errorf("S2: Both(%d, %d, %d) = %v, %d, want %v, %d", c.kind, c.from, c.to, w, e, c.want, c.e)
		}
	}
	m := mark(t, g, 2)
	for _, c := range []struct {
		from, to int
		want     api.Way
		e        api.Errno
	}{
		{0, 1, api.Way{Label: 3, Edges: []int{1, 3}}, api.OK},
		{1, 1, api.Way{}, api.OK},
		{2, 0, api.Way{}, api.ErrReach},
		{0, 3, api.Way{}, api.ErrReach},
		{3, 0, api.Way{}, api.ErrReach},
		{0, 4, api.Way{}, api.ErrVertex},
		{-1, 0, api.Way{}, api.ErrVertex},
	} {
		if w, e := seek.Guided(g, m, c.from, c.to); w.Label != c.want.Label || !slices.Equal(w.Edges, c.want.Edges) || e != c.e {
			t.Errorf("S6: Guided(%d, %d) = %v, %d, want %v, %d", c.from, c.to, w, e, c.want, c.e)
		}
	}
}

// TestWaysByChance: between all vertices, of all kinds, without landmarks and with many.
func TestWaysByChance(t *testing.T) {
	someOf(700, 1, func(dice *rand.Rand, g api.Graph) {
		allWays(t, dice, g)
	})
}

func allWays(t *testing.T, dice *rand.Rand, g api.Graph) {
	t.Helper()
	marks := []api.Marks{{}, mark(t, g, dice.IntN(g.N)), mark(t, g, dice.Perm(g.N)...), mark(t, g, dice.IntN(g.N), dice.IntN(g.N), dice.IntN(g.N))}
	for from := range g.N {
		for _, kind := range kinds {
			labels := labelsFrom(g, kind, from)
			for to := range g.N {
				w, e := seek.Both(g, kind, from, to)
				goodAnswer(t, "Both", g, kind, from, to, w, e, labels[to])
			}
		}
		labels := labelsFrom(g, api.KindSum, from)
		for to := range g.N {
			w, e := seek.Guided(g, marks[(from+to)%len(marks)], from, to)
			goodAnswer(t, "Guided", g, api.KindSum, from, to, w, e, labels[to])
		}
	}
}

// TestAllSmallGraphs: each of three vertices, with edges of no weight and of one.
func TestAllSmallGraphs(t *testing.T) {
	dice := rand.New(rand.NewPCG(22, 5))
	n := 3
	codes := 1
	for range n * (n - 1) {
		codes *= 3
	}
	for code := range codes {
		var edges []api.Edge
		rest := code
		for i := range n * n {
			if i/n == i%n {
				continue
			}
			if x := rest % 3; x > 0 {
				edges = append(edges, edge(i/n, i%n, uint64(x-1)))
			}
			rest /= 3
		}
		allWays(t, dice, build(n, edges...))
	}
}

// TestNoVertexTwice: fields of edges that all have the weight 0, or 1 here and there, where the two ends meet in many ways.
func TestNoVertexTwice(t *testing.T) {
	dice := rand.New(rand.NewPCG(22, 6))
	for range 300 {
		n := 2 + dice.IntN(8)
		var edges []api.Edge
		for a := range n {
			for b := range n {
				if dice.IntN(3) > 0 {
					edges = append(edges, edge(a, b, dice.Uint64N(8)/7))
				}
			}
		}
		allWays(t, dice, build(n, edges...))
	}
}

// TestLargerGraphs: S8: some hundred vertices, and landmarks that Far tells.
func TestLargerGraphs(t *testing.T) {
	dice := rand.New(rand.NewPCG(22, 7))
	for range 60 {
		n := 200 + dice.IntN(300)
		most := 1 + dice.Uint64N(100)
		var edges []api.Edge
		for range dice.IntN(5 * n) {
			edges = append(edges, edge(dice.IntN(n), dice.IntN(n), dice.Uint64N(most)))
		}
		g := build(n, edges...)
		at, _ := seek.Far(g, dice.IntN(n), 5)
		m := mark(t, g, at...)
		for range 20 {
			from, to := dice.IntN(n), dice.IntN(n)
			for _, kind := range kinds {
				w, e := seek.Both(g, kind, from, to)
				goodAnswer(t, "Both", g, kind, from, to, w, e, labelsFrom(g, kind, from)[to])
			}
			w, e := seek.Guided(g, m, from, to)
			goodAnswer(t, "Guided", g, api.KindSum, from, to, w, e, labelsFrom(g, api.KindSum, from)[to])
		}
	}
}

// TestGreatestLabels: S2: as many edges as a way may have, each as heavy as may be.
func TestGreatestLabels(t *testing.T) {
	n := api.MaxVertices
	edges := make([]api.Edge, n-1)
	for i := range edges {
		edges[i] = edge(i+1, i, api.MaxWeight)
	}
	g := build(n, edges...)
	want := uint64(n-1) * api.MaxWeight
	if w, e := seek.Both(g, api.KindSum, n-1, 0); w.Label != want || len(w.Edges) != n-1 || e != api.OK {
		t.Errorf("S2: %d, %d edges, %d, want %d", w.Label, len(w.Edges), e, want)
	}
	if w, e := seek.Both(g, api.KindMax, n-1, 0); w.Label != api.MaxWeight || len(w.Edges) != n-1 || e != api.OK {
		t.Errorf("S2: %d, %d edges, %d", w.Label, len(w.Edges), e)
	}
	if w, e := seek.Both(g, api.KindHops, 0, n-1); w.Edges != nil || e != api.ErrReach {
		t.Errorf("S2: %d edges, %d", len(w.Edges), e)
	}
	m := mark(t, g, 0)
	if m.To[0][n-1] != want || m.From[0][n-1] != never {
		t.Errorf("S3: %d, %d", m.To[0][n-1], m.From[0][n-1])
	}
	if x, e := seek.Bound(g, m, n-1, 0); x != want || e != api.OK {
		t.Errorf("S5: %d, %d, want %d", x, e, want)
	}
	if w, e := seek.Guided(g, m, n-1, 0); w.Label != want || len(w.Edges) != n-1 || e != api.OK {
		t.Errorf("S6: %d, %d edges, %d, want %d", w.Label, len(w.Edges), e, want)
	}
}

// wrongGraphs are all no graphs.
func wrongGraphs() []api.Graph {
	return []api.Graph{
		{},
		{N: -1},
		{N: math.MaxInt},
		{N: api.MaxVertices},
		{N: api.MaxVertices + 1, Start: make([]int, api.MaxVertices+2)},
		{N: 2, Start: []int{0, 2, 1}, To: []int{0}, Weight: []uint64{0}},
		{N: 1, Start: []int{0, 1}, To: []int{1}, Weight: []uint64{0}},
		{N: 1, Start: []int{0, 1}, To: []int{0}, Weight: []uint64{api.MaxWeight + 1}},
	}
}

// TestErrorsInTheirOrder: whatever else is wrong, the graph comes first, then the kind, the vertices, and what is the call's own.
func TestErrorsInTheirOrder(t *testing.T) {
	broken := api.Marks{At: []int{-1}, From: [][]uint64{nil}}
	for i, g := range wrongGraphs() {
		want, _ := graph.Check(g)
		if want == api.OK {
			t.Fatalf("case %d is a graph", i)
		}
		if w, e := seek.Both(g, 0, -1, 9); w.Label != 0 || w.Edges != nil || e != want {
			t.Errorf("S2: case %d: %v, %d, want %d", i, w, e, want)
		}
		if m, e := seek.Mark(g, make([]int, api.MaxMarks+1)); m.At != nil || m.From != nil || m.To != nil || e != want {
			t.Errorf("S3: case %d: %v, %d, want %d", i, m, e, want)
		}
		if e, at := seek.Check(g, broken); e != want || at != 0 {
			t.Errorf("S4: case %d: %d, %d, want %d", i, e, at, want)
		}
		if x, e := seek.Bound(g, broken, -1, 9); x != 0 || e != want {
			t.Errorf("S5: case %d: %d, %d, want %d", i, x, e, want)
		}
		if w, e := seek.Guided(g, broken, -1, 9); w.Label != 0 || w.Edges != nil || e != want {
			t.Errorf("S6: case %d: %v, %d, want %d", i, w, e, want)
		}
		if l, e := seek.Far(g, -1, 0); l != nil || e != want {
			t.Errorf("S7: case %d: %v, %d, want %d", i, l, e, want)
		}
	}
	g := small()
	for _, c := range [][2]int{{-1, 0}, {0, -1}, {4, 0}, {0, 4}, {math.MaxInt, math.MinInt}} {
		if w, e := seek.Both(g, 5, c[0], c[1]); w.Edges != nil || e != api.ErrKind {
			t.Errorf("S2: kind ahead of vertices: %v, %d", w, e)
		}
		if w, e := seek.Both(g, api.KindMax, c[0], c[1]); w.Edges != nil || e != api.ErrVertex {
			t.Errorf("S2: vertices: %v, %d", w, e)
		}
		if x, e := seek.Bound(g, broken, c[0], c[1]); x != 0 || e != api.ErrVertex {
			t.Errorf("S5: vertices ahead of marks: %d, %d", x, e)
		}
		if w, e := seek.Guided(g, broken, c[0], c[1]); w.Edges != nil || e != api.ErrVertex {
			t.Errorf("S6: vertices ahead of marks: %v, %d", w, e)
		}
	}
	if w, e := seek.Guided(g, broken, 1, 0); w.Edges != nil || e != api.ErrList {
		t.Errorf("S6: marks ahead of what is not reached: %v, %d", w, e)
	}
	none := build(0)
	if w, e := seek.Both(none, api.KindSum, 0, 0); w.Edges != nil || e != api.ErrVertex {
		t.Errorf("S2: no vertices: %v, %d", w, e)
	}
	if l, e := seek.Far(none, 0, 0); l != nil || e != api.ErrVertex {
		t.Errorf("S7: no vertices: %v, %d", l, e)
	}
}
