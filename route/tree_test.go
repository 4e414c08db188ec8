package route_test

import (
	"math"
	"math/rand/v2"
	"slices"
	"testing"

	"wayfare/api"
	"wayfare/route"
)

func TestTreesOfTheExamples(t *testing.T) {
	first := []api.Start{start(0, 0)}
	for i, c := range []struct {
		g         api.Graph
		kind      int
		starts    []api.Start
		labels    []uint64
		by, depth []int
		e         api.Errno
	}{
		{small(), api.KindSum, first, []uint64{0, 3, 1, never}, []int{-1, 3, 1, -1}, []int{0, 2, 1, 0}, api.OK},
		{small(), api.KindSum, first, []uint64{0, 3, 2, never}, nil, nil, api.ErrLabel},
		{small(), api.KindSum, first, []uint64{0, 2, 1, never}, nil, nil, api.ErrLabel},
		{small(), api.KindSum, first, []uint64{0, 3, 1, 9}, nil, nil, api.ErrLabel},
		{small(), api.KindSum, first, []uint64{never, never, never, never}, nil, nil, api.ErrLabel},
		{small(), api.KindSum, first, []uint64{0, 3, 1, never - 1}, nil, nil, api.ErrLabel},
		{small(), api.KindSum, first, []uint64{0, 3, 1}, nil, nil, api.ErrList},
		{small(), api.KindSum, first, []uint64{0, 3, 1, never, 0}, nil, nil, api.ErrList},
		{small(), api.KindSum, first, nil, nil, nil, api.ErrList},
		{small(), api.KindSum, nil, []uint64{never, never, never, never}, []int{-1, -1, -1, -1}, []int{0, 0, 0, 0}, api.OK},
		{build(0), api.KindMax, nil, nil, nil, nil, api.OK},
		{build(0), api.KindMax, nil, []uint64{0}, nil, nil, api.ErrList},
		// three tight edges: the least place counts, though the vertex 2 stands ahead of 1 among the starts
		{build(4, edge(1, 3, 4), edge(1, 3, 2), edge(1, 3, 2), edge(2, 3, 1)), api.KindSum, []api.Start{start(2, 1), start(1, 0)}, []uint64{never, 0, 1, 2}, []int{-1, -1, -1, 1}, []int{0, 0, 0, 1}, api.OK},
		// a tight edge of a lesser place comes from a greater depth
		{build(4, edge(1, 2, 0), edge(3, 1, 0), edge(3, 2, 0), edge(0, 2, 9)), api.KindSum, []api.Start{start(3, 0)}, []uint64{never, 0, 0, 0}, []int{-1, 2, 3, -1}, []int{0, 1, 1, 0}, api.OK},
		// a start that has just the label beats a tight edge; one above it does not
		{build(2, edge(0, 1, 3)), api.KindSum, []api.Start{start(0, 0), start(1, 4), start(1, 3)}, []uint64{0, 3}, []int{-1, -1}, []int{0, 0}, api.OK},
		{build(2, edge(0, 1, 3)), api.KindSum, []api.Start{start(0, 0), start(1, 4)}, []uint64{0, 3}, []int{-1, 0}, []int{0, 1}, api.OK},
		// a circle of weight 0 does not hold itself up
		{build(3, edge(0, 1, 0), edge(1, 0, 0), edge(2, 1, 5)), api.KindSum, []api.Start{start(2, 0)}, []uint64{5, 5, 0}, []int{1, 2, -1}, []int{2, 1, 0}, api.OK},
	} {
		by, depth, e := route.Tree(c.g, c.kind, c.starts, c.labels)
		if !slices.Equal(by, c.by) || !slices.Equal(depth, c.depth) || e != c.e {
			t.Errorf("R6: %d: %v, %v, %d, want %v, %v, %d", i, by, depth, e, c.by, c.depth, c.e)
		}
		if e != api.OK && (by != nil || depth != nil) {
			t.Errorf("P0.2: %d: %v, %v beside %d", i, by, depth, e)
		}
	}
}

func TestTreesAreAsTheyAreTold(t *testing.T) {
	dice := rand.New(rand.NewPCG(9, 7))
	for range 1500 {
		n := 1 + dice.IntN(20)
		g, starts := randomGraph(dice, n, dice.IntN(5*n)), randomStarts(dice, n)
		for _, kind := range kinds {
			labels, _ := route.Search(g, kind, starts)
			wantBy, wantDepth := treeByWords(g, kind, starts, labels)
			by, depth, e := route.Tree(g, kind, starts, labels)
			if !slices.Equal(by, wantBy) || !slices.Equal(depth, wantDepth) || e != api.OK {
				t.Fatalf("R6: %v, kind %d, %v: %v, %v, %d, want %v, %v", g, kind, starts, by, depth, e, wantBy, wantDepth)
			}
			waysHaveTheLabels(t, g, kind, starts, labels, by, depth)
		}
	}
}

// waysHaveTheLabels looks that the way to each vertex begins at a start of which its label comes.
func waysHaveTheLabels(t *testing.T, g api.Graph, kind int, starts []api.Start, labels []uint64, by, depth []int) {
	t.Helper()
	for v := range g.N {
		way, e := route.Path(g, by, v)
		if e != api.OK || len(way) != depth[v] {
			t.Fatalf("R7: Path(%v, %d) = %v, %d, depth %d", by, v, way, e, depth[v])
		}
		if labels[v] == never {
			continue
		}
		root := v
		if len(way) > 0 {
			root = 0
			for g.Start[root+1] <= way[0] {
				root++
			}
		}
		if !slices.Contains(starts, start(root, labels[root])) {
			t.Fatalf("R11: the way to %d begins at %d, with no start", v, root)
		}
		if x, e := route.Length(g, kind, labels[root], way); x != labels[v] || e != api.OK {
			t.Fatalf("R11: the way to %d has %d, %d, want %d", v, x, e, labels[v])
		}
	}
}

func TestPath(t *testing.T) {
	g := small()
	for _, c := range []struct {
		by   []int
		to   int
		want []int
		e    api.Errno
	}{
		{[]int{-1, 3, 1, -1}, 1, []int{1, 3}, api.OK},
		{[]int{-1, 3, 1, -1}, 2, []int{1}, api.OK},
		{[]int{-1, 3, 1, -1}, 0, nil, api.OK},
		{[]int{-1, 3, 1, -1}, 3, nil, api.OK},
		{[]int{-1, 0, 1, -1}, 1, []int{0}, api.OK},
		{[]int{-1, 3, 2, -1}, 1, nil, api.ErrReach},
		{[]int{-1, 3, 2, -1}, 2, nil, api.ErrReach},
		{[]int{-1, 3, 2, -1}, 0, nil, api.OK},
		{[]int{0, 3, 1, -1}, 0, nil, api.ErrPlace},
		{[]int{0, 3, 1, -1}, 1, nil, api.ErrPlace},
		{[]int{-1, 3, 1, 4}, 3, nil, api.ErrPlace},
		{[]int{-1, 3, 1, 4}, 1, []int{1, 3}, api.OK},
		{[]int{-1, -2, 1, -1}, 1, nil, api.ErrPlace},
		{[]int{-1, 3, -2, -1}, 1, nil, api.ErrPlace},
		{[]int{-1, math.MaxInt, 1, -1}, 1, nil, api.ErrPlace},
		{[]int{-1, math.MinInt, 1, -1}, 1, nil, api.ErrPlace},
		{[]int{-1, 3, 1, -1}, 4, nil, api.ErrVertex},
		{[]int{-1, 3, 1, -1}, -1, nil, api.ErrVertex},
		{[]int{-1, 3, 1, -1}, math.MinInt, nil, api.ErrVertex},
		{[]int{-1, 3, 1}, 9, nil, api.ErrList},
		{[]int{-1, 3, 1, -1, -1}, 0, nil, api.ErrList},
		{nil, 0, nil, api.ErrList},
	} {
		if l, e := route.Path(g, c.by, c.to); !slices.Equal(l, c.want) || e != c.e || e != api.OK && l != nil {
			t.Errorf("R7: Path(%v, %d) = %v, %d, want %v, %d", c.by, c.to, l, e, c.want, c.e)
		}
	}
	if l, e := route.Path(build(0), nil, 0); l != nil || e != api.ErrVertex {
		t.Errorf("R7: no vertices: %v, %d", l, e)
	}
}

func TestPathAtItsEdges(t *testing.T) {
	own := build(2, edge(0, 0, 1), edge(0, 1, 1))
	for _, to := range []int{0, 1} {
		if l, e := route.Path(own, []int{0, 1}, to); l != nil || e != api.ErrReach {
			t.Errorf("R7: an edge from a vertex to itself: %v, %d", l, e)
		}
	}
	// as many edges as there are vertices but one: the longest way there is
	long := backwards(5, 1)
	if l, e := route.Path(long, []int{0, 1, 2, 3, -1}, 0); !slices.Equal(l, []int{3, 2, 1, 0}) || e != api.OK {
		t.Errorf("R7: the longest way: %v, %d", l, e)
	}
	// the edges stand behind rows that are empty
	far := build(6, edge(2, 5, 1), edge(5, 0, 1))
	if l, e := route.Path(far, []int{1, -1, -1, -1, -1, 0}, 0); !slices.Equal(l, []int{0, 1}) || e != api.OK {
		t.Errorf("R7: over empty rows: %v, %d", l, e)
	}
}

func TestLength(t *testing.T) {
	g := small()
	for _, c := range []struct {
		kind  int
		label uint64
		way   []int
		want  uint64
		e     api.Errno
	}{
		{api.KindSum, 7, []int{1, 3}, 10, api.OK},
		{api.KindSum, 0, []int{3, 0}, 0, api.ErrReach},
		{api.KindMax, 0, []int{1, 3, 2}, 2, api.OK},
		{api.KindHops, 4, []int{1, 3, 2, 3, 2}, 9, api.OK},
		{api.KindLabel, 4, []int{1, 3, 2, 3, 2}, 4, api.OK},
		{api.KindSum, 4, nil, 4, api.OK},
		{api.KindSum, never, nil, never, api.OK},
		{api.KindSum, never, []int{0}, never, api.OK},
		{api.KindSum, never - 1, []int{0}, never - 1, api.OK},
		{api.KindSum, never - 7, []int{1, 3}, never - 4, api.OK},
		{api.KindSum, never - 3, []int{1, 3}, never - 1, api.OK},
		{api.KindSum, never - 2, []int{}, never - 2, api.OK},
		{api.KindSum, 0, []int{0, 3}, 0, api.ErrReach},
		{api.KindSum, 0, []int{0, 0}, 0, api.ErrReach},
		{api.KindSum, never, []int{0, 3}, 0, api.ErrReach},
		{api.KindSum, 0, []int{4}, 0, api.ErrPlace},
		{api.KindSum, 0, []int{-1}, 0, api.ErrPlace},
		{api.KindSum, 0, []int{3, 4}, 0, api.ErrPlace},
		{api.KindSum, 0, []int{3, 0, 4}, 0, api.ErrReach},
		{api.KindSum, 0, []int{3, -1, 0}, 0, api.ErrPlace},
		{api.KindSum, 0, []int{math.MaxInt}, 0, api.ErrPlace},
		{api.KindSum, 0, []int{math.MinInt}, 0, api.ErrPlace},
		{0, 0, []int{-1}, 0, api.ErrKind},
		{5, 0, nil, 0, api.ErrKind},
	} {
		if x, e := route.Length(g, c.kind, c.label, c.way); x != c.want || e != c.e {
			t.Errorf("R8: Length(%d, %d, %v) = %d, %d, want %d, %d", c.kind, c.label, c.way, x, e, c.want, c.e)
		}
	}
	if x, e := route.Length(build(0), api.KindSum, 3, nil); x != 3 || e != api.OK {
		t.Errorf("R8: no vertices: %d, %d", x, e)
	}
	// rows that are empty lie between the edges
	if x, e := route.Length(build(6, edge(2, 5, 1), edge(5, 0, 1)), api.KindSum, 0, []int{0, 1}); x != 2 || e != api.OK {
		t.Errorf("R8: over empty rows: %d, %d", x, e)
	}
}

func TestWaysAreNotBelowTheLabels(t *testing.T) {
	dice := rand.New(rand.NewPCG(9, 8))
	for range 1000 {
		n := 1 + dice.IntN(12)
		g, starts := randomGraph(dice, n, 1+dice.IntN(4*n)), randomStarts(dice, n)
		for _, s := range starts {
			kind, v := kinds[dice.IntN(4)], s.Vertex
			labels, _ := route.Search(g, kind, starts)
			var way []int
			for range dice.IntN(8) {
				if g.Start[v] == g.Start[v+1] {
					break
				}
				place := g.Start[v] + dice.IntN(g.Start[v+1]-g.Start[v])
				way, v = append(way, place), g.To[place]
			}
			if x, e := route.Length(g, kind, s.Label, way); x < labels[v] || e != api.OK {
				t.Fatalf("R11: kind %d, from %v along %v: %d, %d, label %d", kind, s, way, x, e, labels[v])
			}
		}
	}
}
