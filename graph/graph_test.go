package graph_test

import (
	"math"
	"slices"
	"testing"

	"wayfare/api"
	"wayfare/graph"
)

// example is the chapter's graph g.
func example() api.Graph {
	return api.Graph{N: 3, Start: []int{0, 2, 2, 4}, To: []int{2, 1, 0, 2}, Weight: []uint64{5, 7, 1, 0}}
}

// arc is an edge that is written short.
type arc struct {
	From, To int
	Weight   uint64
}

func of(l []arc) []api.Edge {
	var out []api.Edge
	for _, x := range l {
		out = append(out, api.Edge(x))
	}
	return out
}

func same(a, b api.Graph) bool {
	return a.N == b.N && slices.Equal(a.Start, b.Start) && slices.Equal(a.To, b.To) && slices.Equal(a.Weight, b.Weight)
}

func nothing(g api.Graph) bool {
	return g.N == 0 && g.Start == nil && g.To == nil && g.Weight == nil
}

func TestBuild(t *testing.T) {
	for _, c := range []struct {
		name string
		r    api.Roads
		want api.Graph
	}{
		{"the example", api.Roads{N: 3, Edges: of([]arc{{2, 0, 1}, {0, 2, 5}, {2, 2, 0}, {0, 1, 7}})}, example()},
		{"no vertices", api.Roads{}, api.Graph{Start: []int{0}}},
		{"no vertices, an empty list", api.Roads{Edges: []api.Edge{}}, api.Graph{Start: []int{0}}},
		{"no edges", api.Roads{N: 2}, api.Graph{N: 2, Start: []int{0, 0, 0}}},
		{"several edges between two vertices keep their order", api.Roads{N: 2, Edges: of([]arc{{1, 0, 9}, {1, 0, 4}, {0, 0, 1}, {1, 0, 9}, {1, 1, 6}})},
			api.Graph{N: 2, Start: []int{0, 1, 5}, To: []int{0, 0, 0, 0, 1}, Weight: []uint64{1, 9, 4, 9, 6}}},
		{"the greatest weight", api.Roads{N: 1, Edges: of([]arc{{0, 0, api.MaxWeight}})}, api.Graph{N: 1, Start: []int{0, 1}, To: []int{0}, Weight: []uint64{api.MaxWeight}}},
	} {
		if g, e, at := graph.Build(c.r); e != api.OK || at != 0 || !same(g, c.want) {
			t.Errorf("G1: %s: %v, %d, %d, want %v", c.name, g, e, at, c.want)
		}
	}
}

func TestBuildRefused(t *testing.T) {
	for _, c := range []struct {
		name string
		r    api.Roads
		e    api.Errno
		at   int
	}{
		{"no such To", api.Roads{N: 3, Edges: of([]arc{{0, 3, 1}})}, api.ErrVertex, 0},
		{"no such From", api.Roads{N: 3, Edges: of([]arc{{3, 0, 1}})}, api.ErrVertex, 0},
		{"To below 0", api.Roads{N: 3, Edges: of([]arc{{0, 0, 1}, {0, -1, 1}})}, api.ErrVertex, 1},
		{"From below 0", api.Roads{N: 3, Edges: of([]arc{{0, 0, 1}, {-1, 0, 1}})}, api.ErrVertex, 1},
		{"the least and the greatest int", api.Roads{N: 3, Edges: of([]arc{{1, 1, 1}, {1, 2, 1}, {math.MinInt, math.MaxInt, 1}})}, api.ErrVertex, 2},
		{"a weight", api.Roads{N: 2, Edges: of([]arc{{0, 1, 1}, {1, 1, api.MaxWeight + 1}})}, api.ErrWeight, 1},
		{"the greatest word", api.Roads{N: 2, Edges: of([]arc{{0, 1, math.MaxUint64}})}, api.ErrWeight, 0},
		{"From ahead of the weight", api.Roads{N: 2, Edges: of([]arc{{2, 1, api.MaxWeight + 1}})}, api.ErrVertex, 0},
		{"To ahead of the weight", api.Roads{N: 2, Edges: of([]arc{{0, 2, api.MaxWeight + 1}})}, api.ErrVertex, 0},
		{"the first of two", api.Roads{N: 2, Edges: of([]arc{{0, 0, 0}, {0, 0, api.MaxWeight + 1}, {2, 0, 0}})}, api.ErrWeight, 1},
		{"an edge of no vertices", api.Roads{Edges: of([]arc{{}})}, api.ErrVertex, 0},
		{"too many vertices", api.Roads{N: api.MaxVertices + 1}, api.ErrSize, -1},
		{"far too many vertices", api.Roads{N: math.MaxInt}, api.ErrSize, -1},
		{"N below 0", api.Roads{N: -1}, api.ErrSize, -1},
		{"N far below 0", api.Roads{N: math.MinInt}, api.ErrSize, -1},
		{"sizes ahead of edges", api.Roads{N: -1, Edges: of([]arc{{0, 3, 1}})}, api.ErrSize, -1},
		{"too many edges", api.Roads{N: 1, Edges: make([]api.Edge, api.MaxEdges+1)}, api.ErrSize, -1},
		{"too many edges that are wrong", api.Roads{Edges: make([]api.Edge, api.MaxEdges+1)}, api.ErrSize, -1},
	} {
		if g, e, at := graph.Build(c.r); e != c.e || at != c.at || !nothing(g) {
			t.Errorf("G1: %s: %v, %d, %d, want %d, %d", c.name, g, e, at, c.e, c.at)
		}
	}
}

func TestAsManyAsThereMayBe(t *testing.T) {
	r := api.Roads{N: api.MaxVertices, Edges: make([]api.Edge, api.MaxEdges)}
	for i := range r.Edges {
		r.Edges[i] = api.Edge{From: i * 7 % r.N, To: i * 5 % r.N, Weight: uint64(i)}
	}
	g, e, at := graph.Build(r)
	if e != api.OK || at != 0 || len(g.Start) != r.N+1 || len(g.To) != len(r.Edges) {
		t.Fatalf("G1: %d, %d", e, at)
	}
	if e, at := graph.Check(g); e != api.OK || at != 0 {
		t.Errorf("G2: %d, %d", e, at)
	}
	for i, x := range r.Edges[:1000] { // four edges a row, and of these the first ones
		at := g.Start[x.From]
		if g.To[at] != x.To || g.Weight[at] != x.Weight {
			t.Fatalf("G1: the edge %d", i)
		}
	}
	if back, e := graph.Turn(g); e != api.OK || len(back.To) != len(r.Edges) {
		t.Errorf("G5: %d", e)
	}
	if p, e := graph.Parts(g, api.MaxVertices); e != api.OK || len(p) != api.MaxVertices+1 || p[1] != 1 || p[api.MaxVertices-1] != api.MaxVertices-1 {
		t.Errorf("G9: %d", e)
	}
	one := api.Graph{N: api.MaxVertices + 1, Start: make([]int, api.MaxVertices+2)}
	if e, at := graph.Check(one); e != api.ErrSize || at != -1 {
		t.Errorf("G2: one vertex more: %d, %d", e, at)
	}
	two := api.Graph{N: 1, Start: []int{0, api.MaxEdges + 1}, To: make([]int, api.MaxEdges+1), Weight: make([]uint64, api.MaxEdges+1)}
	if e, at := graph.Check(two); e != api.ErrSize || at != -1 {
		t.Errorf("G2: one edge more: %d, %d", e, at)
	}
	two.Start[1], two.To, two.Weight = api.MaxEdges, two.To[1:], two.Weight[1:]
	if e, at := graph.Check(two); e != api.OK || at != 0 {
		t.Errorf("G2: all edges in one row: %d, %d", e, at)
	}
}

// wrongGraphs are all no graphs, each with what Check says.
func wrongGraphs() []struct {
	g  api.Graph
	e  api.Errno
	at int
} {
	const heavy = api.MaxWeight + 1
	to, weight := []int{2, 1, 0, 2}, []uint64{5, 7, 1, 0}
	return []struct {
		g  api.Graph
		e  api.Errno
		at int
	}{
		{api.Graph{}, api.ErrRows, -1},
		{api.Graph{N: 1}, api.ErrRows, -1},
		{api.Graph{N: -1}, api.ErrSize, -1},
		{api.Graph{N: -1, Start: []int{}}, api.ErrSize, -1},
		{api.Graph{N: math.MinInt}, api.ErrSize, -1},
		{api.Graph{N: math.MaxInt}, api.ErrSize, -1},
		{api.Graph{N: api.MaxVertices + 1}, api.ErrSize, -1},
		{api.Graph{N: api.MaxVertices}, api.ErrRows, -1},
		{api.Graph{N: 3, Start: []int{0, 2, 4}, To: to, Weight: weight}, api.ErrRows, -1},
		{api.Graph{N: 3, Start: []int{0, 2, 2, 4, 4}, To: to, Weight: weight}, api.ErrRows, -1},
		{api.Graph{N: 3, Start: []int{0, 2, 2, 4}, To: to, Weight: weight[:3]}, api.ErrRows, -1},
		{api.Graph{N: 3, Start: []int{0, 2, 2, 3}, To: to[:3], Weight: weight}, api.ErrRows, -1},
		{api.Graph{N: 3, Start: []int{1, 2, 2, 3}, To: to[:3], Weight: weight}, api.ErrRows, -1},
		{api.Graph{N: 1, Start: []int{0, 1}, To: []int{0}}, api.ErrRows, -1},
		{api.Graph{N: 3, Start: []int{0, 2, 1, 4}, To: to, Weight: weight}, api.ErrRows, 2},
		{api.Graph{N: 3, Start: []int{1, 2, 2, 4}, To: to, Weight: weight}, api.ErrRows, 0},
		{api.Graph{N: 3, Start: []int{-1, 2, 2, 4}, To: to, Weight: weight}, api.ErrRows, 0},
		{api.Graph{N: 3, Start: []int{0, -1, 2, 4}, To: to, Weight: weight}, api.ErrRows, 1},
		{api.Graph{N: 3, Start: []int{0, 5, 5, 4}, To: to, Weight: weight}, api.ErrRows, 1},
		{api.Graph{N: 3, Start: []int{0, math.MaxInt, math.MinInt, 4}, To: to, Weight: weight}, api.ErrRows, 1},
		{api.Graph{N: 3, Start: []int{0, 2, 2, 3}, To: to, Weight: weight}, api.ErrRows, 3},
		{api.Graph{N: 3, Start: []int{0, 2, 2, 5}, To: to, Weight: weight}, api.ErrRows, 3},
		{api.Graph{N: 3, Start: []int{0, 4, 4, 3}, To: to, Weight: weight}, api.ErrRows, 3},
		{api.Graph{Start: []int{1}}, api.ErrRows, 0},
		{api.Graph{Start: []int{-1}}, api.ErrRows, 0},
		{api.Graph{Start: []int{0}, To: []int{0}, Weight: []uint64{0}}, api.ErrRows, 0},
		{api.Graph{Start: []int{1}, To: []int{0}, Weight: []uint64{0}}, api.ErrRows, 0},
		{api.Graph{N: 1, Start: []int{0, 0}, To: []int{7}, Weight: []uint64{heavy}}, api.ErrRows, 1},
		{api.Graph{N: 2, Start: []int{0, 1, 3}, To: []int{1, 2, -1}, Weight: []uint64{0, 0, 0}}, api.ErrVertex, 1},
		{api.Graph{N: 2, Start: []int{0, 1, 3}, To: []int{1, 0, -1}, Weight: []uint64{0, 0, 0}}, api.ErrVertex, 2},
		{api.Graph{N: 2, Start: []int{0, 1, 3}, To: []int{1, 0, 2}, Weight: []uint64{0, 0, heavy}}, api.ErrVertex, 2},
		{api.Graph{N: 2, Start: []int{0, 1, 3}, To: []int{1, 0, 2}, Weight: []uint64{0, heavy, 0}}, api.ErrWeight, 1},
		{api.Graph{N: 2, Start: []int{0, 1, 3}, To: []int{1, 0, 1}, Weight: []uint64{0, 0, math.MaxUint64}}, api.ErrWeight, 2},
	}
}

func TestCheck(t *testing.T) {
	for _, g := range []api.Graph{
		example(),
		{Start: []int{0}},
		{Start: []int{0}, To: []int{}, Weight: []uint64{}},
		{N: 2, Start: []int{0, 0, 0}},
		{N: 1, Start: []int{0, 2}, To: []int{0, 0}, Weight: []uint64{api.MaxWeight, 0}},
	} {
		if e, at := graph.Check(g); e != api.OK || at != 0 {
			t.Errorf("G2: Check(%v) = %d, %d", g, e, at)
		}
	}
	for _, c := range wrongGraphs() {
		if e, at := graph.Check(c.g); e != c.e || at != c.at {
			t.Errorf("G2: Check(%v) = %d, %d, want %d, %d", c.g, e, at, c.e, c.at)
		}
	}
}

func TestGraphsThatAreNone(t *testing.T) {
	for _, c := range wrongGraphs() {
		want := func(call string, e api.Errno, empty bool) {
			t.Helper()
			if e != c.e || !empty {
				t.Errorf("G3, P0.2: %s(%v) = %d, want %d and nothing", call, c.g, e, c.e)
			}
		}
		r, e := graph.Edges(c.g)
		want("Edges", e, r.N == 0 && r.Edges == nil)
		g, e := graph.Turn(c.g)
		want("Turn", e, nothing(g))
		g, e = graph.Sort(c.g)
		want("Sort", e, nothing(g))
		g, e = graph.Merge(c.g)
		want("Merge", e, nothing(g))
		l, e := graph.ByDegree(c.g)
		want("ByDegree", e, l == nil)
		g, e = graph.Relabel(c.g, []int{5, 5})
		want("Relabel", e, nothing(g))
		l, e = graph.Parts(c.g, -1)
		want("Parts", e, l == nil)
		reached, e := graph.Reach(c.g, []int{-1})
		want("Reach", e, reached == nil)
		for v := range 3 {
			for to := range graph.Row(c.g, v) {
				t.Errorf("G11: Row(%v, %d) has %d", c.g, v, to)
			}
		}
	}
}

func TestEdges(t *testing.T) {
	want := of([]arc{{0, 2, 5}, {0, 1, 7}, {2, 0, 1}, {2, 2, 0}})
	if r, e := graph.Edges(example()); e != api.OK || r.N != 3 || !slices.Equal(r.Edges, want) {
		t.Errorf("G4: %v, %d", r, e)
	}
	if r, e := graph.Edges(api.Graph{Start: []int{0}}); e != api.OK || r.N != 0 || len(r.Edges) != 0 {
		t.Errorf("G4: no vertices: %v, %d", r, e)
	}
	if r, e := graph.Edges(api.Graph{N: 2, Start: []int{0, 0, 0}}); e != api.OK || r.N != 2 || len(r.Edges) != 0 {
		t.Errorf("G4: no edges: %v, %d", r, e)
	}
}

func TestRow(t *testing.T) {
	type end struct {
		to     int
		weight uint64
	}
	rows := [][]end{{{2, 5}, {1, 7}}, nil, {{0, 1}, {2, 0}}}
	g := example()
	for v, want := range rows {
		row := graph.Row(g, v)
		for range 2 { // again and again
			var got []end
			for to, weight := range row {
				got = append(got, end{to, weight})
			}
			if !slices.Equal(got, want) {
				t.Errorf("G11: Row(g, %d) = %v, want %v", v, got, want)
			}
		}
	}
	for _, v := range []int{-1, 3, 4, math.MinInt, math.MaxInt} {
		for to := range graph.Row(g, v) {
			t.Errorf("G11: Row(g, %d) has %d", v, to)
		}
	}
	for range graph.Row(api.Graph{Start: []int{0}}, 0) {
		t.Error("G11: a row of no vertices")
	}
}

func TestRowLeftEarly(t *testing.T) {
	g := example()
	row := graph.Row(g, 0)
	calls := 0
	row(func(to int, weight uint64) bool {
		calls++
		return false
	})
	if calls != 1 {
		t.Errorf("G11: stopped at the first edge, %d were given", calls)
	}
	for to := range row {
		if to != 2 {
			t.Errorf("G11: behind a row that was left, it begins with %d", to)
		}
		break
	}
	var got []int
	for a := range row {
		for b := range row {
			got = append(got, a, b)
			if len(got) == 6 {
				break
			}
		}
	}
	if !slices.Equal(got, []int{2, 2, 2, 1, 1, 2}) { // the inner one is left at its first edge, the second time
		t.Errorf("G11: nested: %v", got)
	}
}

func TestRowKeepsNothing(t *testing.T) {
	g := example()
	row := graph.Row(g, 0)
	for i := range g.To {
		g.To[i], g.Weight[i] = 0, 99
	}
	g.Start[1] = 0
	sum := 0
	for to, weight := range row {
		sum = sum*100 + to*10 + int(weight)
	}
	if sum != 2517 {
		t.Errorf("P0.4: a row that has changed with the caller's graph: %d", sum)
	}
}
