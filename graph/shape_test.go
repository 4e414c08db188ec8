package graph_test

import (
	"cmp"
	"math"
	"math/rand/v2"
	"slices"
	"testing"

	"wayfare/api"
	"wayfare/graph"
)

// none is the graph of no vertices.
func none() api.Graph {
	return api.Graph{Start: []int{0}}
}

// twins has several edges between two vertices.
func twins() api.Graph {
	return api.Graph{N: 3, Start: []int{0, 5, 5, 8}, To: []int{1, 0, 1, 1, 0, 2, 2, 0}, Weight: []uint64{9, 3, 4, 4, 8, 1, 0, 1}}
}

func TestTurn(t *testing.T) {
	for _, c := range []struct{ g, want api.Graph }{
		{example(), api.Graph{N: 3, Start: []int{0, 1, 2, 4}, To: []int{2, 0, 0, 2}, Weight: []uint64{1, 7, 5, 0}}},
		{twins(), api.Graph{N: 3, Start: []int{0, 3, 6, 8}, To: []int{0, 0, 2, 0, 0, 0, 2, 2}, Weight: []uint64{3, 8, 1, 9, 4, 4, 1, 0}}},
		{none(), none()},
	} {
		if g, e := graph.Turn(c.g); e != api.OK || !same(g, c.want) {
			t.Errorf("G5: Turn(%v) = %v, %d, want %v", c.g, g, e, c.want)
		}
	}
}

func TestSortAndMerge(t *testing.T) {
	two := api.Graph{N: 2, Start: []int{0, 2, 2}, To: []int{1, 1}, Weight: []uint64{9, 4}}
	back := api.Graph{N: 2, Start: []int{0, 1, 2}, To: []int{1, 1}, Weight: []uint64{9, 4}} // alike but for the vertex they come from
	for _, c := range []struct{ g, sorted, merged api.Graph }{
		{example(), api.Graph{N: 3, Start: []int{0, 2, 2, 4}, To: []int{1, 2, 0, 2}, Weight: []uint64{7, 5, 1, 0}},
			api.Graph{N: 3, Start: []int{0, 2, 2, 4}, To: []int{1, 2, 0, 2}, Weight: []uint64{7, 5, 1, 0}}},
		{twins(), api.Graph{N: 3, Start: []int{0, 5, 5, 8}, To: []int{0, 0, 1, 1, 1, 0, 2, 2}, Weight: []uint64{3, 8, 4, 4, 9, 1, 0, 1}},
			api.Graph{N: 3, Start: []int{0, 2, 2, 4}, To: []int{0, 1, 0, 2}, Weight: []uint64{3, 4, 1, 0}}},
		{two, api.Graph{N: 2, Start: []int{0, 2, 2}, To: []int{1, 1}, Weight: []uint64{4, 9}},
			api.Graph{N: 2, Start: []int{0, 1, 1}, To: []int{1}, Weight: []uint64{4}}},
		{back, back, back},
		{none(), none(), none()},
	} {
		if g, e := graph.Sort(c.g); e != api.OK || !same(g, c.sorted) {
			t.Errorf("G6: Sort(%v) = %v, %d, want %v", c.g, g, e, c.sorted)
		}
		if g, e := graph.Merge(c.g); e != api.OK || !same(g, c.merged) {
			t.Errorf("G6: Merge(%v) = %v, %d, want %v", c.g, g, e, c.merged)
		}
	}
}

func TestByDegree(t *testing.T) {
	for _, c := range []struct {
		g    api.Graph
		want []int
	}{
		{example(), []int{0, 2, 1}},
		{twins(), []int{0, 2, 1}},
		{none(), nil},
		{api.Graph{N: 3, Start: []int{0, 0, 0, 0}}, []int{0, 1, 2}},
		{api.Graph{N: 4, Start: []int{0, 0, 1, 1, 3}, To: []int{0, 0, 0}, Weight: []uint64{0, 0, 0}}, []int{3, 1, 0, 2}},
	} {
		if l, e := graph.ByDegree(c.g); e != api.OK || !slices.Equal(l, c.want) {
			t.Errorf("G7: ByDegree(%v) = %v, %d, want %v", c.g, l, e, c.want)
		}
	}
}

func TestRelabel(t *testing.T) {
	want := api.Graph{N: 3, Start: []int{0, 2, 4, 4}, To: []int{1, 0, 0, 2}, Weight: []uint64{1, 0, 5, 7}}
	if g, e := graph.Relabel(example(), []int{2, 0, 1}); e != api.OK || !same(g, want) {
		t.Errorf("G8: %v, %d", g, e)
	}
	if g, e := graph.Relabel(example(), []int{0, 1, 2}); e != api.OK || !same(g, example()) {
		t.Errorf("G8: as it was: %v, %d", g, e)
	}
	if g, e := graph.Relabel(none(), nil); e != api.OK || !same(g, none()) {
		t.Errorf("G8: no vertices: %v, %d", g, e)
	}
	for _, order := range [][]int{
		{0, 0, 1}, {2, 1, 2}, {1, 1, 1}, nil, {}, {0, 1}, {0, 1, 2, 3}, {0, 1, 2, 0}, {0, 1, 3}, {0, 1, -1}, {3, 1, 2}, {0, math.MinInt, 2}, {0, math.MaxInt, 2},
	} {
		if g, e := graph.Relabel(example(), order); e != api.ErrList || !nothing(g) {
			t.Errorf("G8: Relabel(g, %v) = %v, %d", order, g, e)
		}
	}
	if _, e := graph.Relabel(none(), []int{0}); e != api.ErrList {
		t.Errorf("G8: an order of no vertices: %d", e)
	}
}

func TestParts(t *testing.T) {
	last := api.Graph{N: 3, Start: []int{0, 0, 0, 2}, To: []int{0, 1}, Weight: []uint64{0, 0}}
	empty := api.Graph{N: 3, Start: []int{0, 0, 0, 0}}
	for _, c := range []struct {
		g    api.Graph
		k    int
		want []int
	}{
		{example(), 1, []int{0, 3}},
		{example(), 2, []int{0, 1, 3}},
		{example(), 3, []int{0, 1, 3, 3}},
		{example(), 4, []int{0, 1, 1, 3, 3}},
		{example(), 5, []int{0, 1, 1, 3, 3, 3}},
		{last, 2, []int{0, 3, 3}},
		{last, 3, []int{0, 3, 3, 3}},
		{empty, 1, []int{0, 3}},
		{empty, 3, []int{0, 0, 0, 3}},
		{none(), 1, []int{0, 0}},
		{none(), 3, []int{0, 0, 0, 0}},
	} {
		if l, e := graph.Parts(c.g, c.k); e != api.OK || !slices.Equal(l, c.want) {
			t.Errorf("G9: Parts(%v, %d) = %v, %d, want %v", c.g, c.k, l, e, c.want)
		}
	}
	for _, k := range []int{0, -1, math.MinInt, api.MaxVertices + 1, math.MaxInt} {
		if l, e := graph.Parts(example(), k); e != api.ErrShape || l != nil {
			t.Errorf("G9: Parts(g, %d) = %v, %d", k, l, e)
		}
	}
	if l, e := graph.Parts(example(), api.MaxVertices); e != api.OK || len(l) != api.MaxVertices+1 || l[1] != 1 || l[api.MaxVertices] != 3 {
		t.Errorf("G9: as many parts as there may be: %d", e)
	}
}

func TestReach(t *testing.T) {
	for _, c := range []struct {
		g    api.Graph
		from []int
		want []bool
	}{
		{example(), []int{1}, []bool{false, true, false}},
		{example(), []int{2}, []bool{true, true, true}},
		{example(), []int{0}, []bool{true, true, true}},
		{example(), nil, []bool{false, false, false}},
		{example(), []int{}, []bool{false, false, false}},
		{example(), []int{1, 1, 1}, []bool{false, true, false}},
		{example(), []int{1, 2, 1, 0}, []bool{true, true, true}},
		{none(), nil, nil},
	} {
		if l, e := graph.Reach(c.g, c.from); e != api.OK || !slices.Equal(l, c.want) {
			t.Errorf("G10: Reach(%v, %v) = %v, %d, want %v", c.g, c.from, l, e, c.want)
		}
	}
	for _, from := range [][]int{{3}, {-1}, {1, 3}, {-1, 1}, {math.MinInt}, {math.MaxInt}} {
		if l, e := graph.Reach(example(), from); e != api.ErrVertex || l != nil {
			t.Errorf("G10: Reach(g, %v) = %v, %d", from, l, e)
		}
	}
	if l, e := graph.Reach(none(), []int{0}); e != api.ErrVertex || l != nil {
		t.Errorf("G10: from a vertex of none: %v, %d", l, e)
	}
}

func TestReachFar(t *testing.T) {
	const n = 300000 // in a chain: what goes by calls in calls would be very deep
	g := api.Graph{N: n, Start: make([]int, n+1), To: make([]int, n-1), Weight: make([]uint64, n-1)}
	for v := range n {
		g.Start[v] = v
		if v < n-1 {
			g.To[v] = v + 1
		}
	}
	g.Start[n] = n - 1
	l, e := graph.Reach(g, []int{1})
	if e != api.OK || l[0] || slices.Contains(l[1:], false) {
		t.Errorf("G10: a chain: %d", e)
	}
}

// anyRoads are edges by draws; few weights, so that several are alike.
func anyRoads(dice *rand.Rand) api.Roads {
	r := api.Roads{N: dice.IntN(7)}
	if r.N == 0 {
		return r
	}
	for range dice.IntN(20) {
		r.Edges = append(r.Edges, api.Edge{From: dice.IntN(r.N), To: dice.IntN(r.N), Weight: dice.Uint64N(4)})
	}
	return r
}

func anyGraph(t *testing.T, dice *rand.Rand) api.Graph {
	t.Helper()
	g, e, _ := graph.Build(anyRoads(dice))
	if e != api.OK {
		t.Fatal(e)
	}
	return g
}

// stably is edges sorted as told, those alike in their order.
func stably(l []api.Edge, by func(a, b api.Edge) int) []api.Edge {
	out := slices.Clone(l)
	slices.SortStableFunc(out, by)
	return out
}

func byFrom(a, b api.Edge) int { return cmp.Compare(a.From, b.From) }
func byEnds(a, b api.Edge) int { return cmp.Or(byFrom(a, b), cmp.Compare(a.To, b.To)) }
func byAll(a, b api.Edge) int  { return cmp.Or(byEnds(a, b), cmp.Compare(a.Weight, b.Weight)) }

func edgesOf(t *testing.T, g api.Graph, e api.Errno) []api.Edge {
	t.Helper()
	r, f := graph.Edges(g)
	if e != api.OK || f != api.OK || r.N != g.N {
		t.Fatalf("%d, %d", e, f)
	}
	return r.Edges
}

func TestShapesOfAny(t *testing.T) {
	dice := rand.New(rand.NewPCG(6, 1))
	for range 2000 {
		r := anyRoads(dice)
		g, e, at := graph.Build(r)
		if f, _ := graph.Check(g); f != api.OK || at != 0 {
			t.Fatalf("G1: %v: %d", r, f)
		}
		l := edgesOf(t, g, e)
		if !slices.Equal(l, stably(r.Edges, byFrom)) {
			t.Errorf("G12: Edges(Build(%v)) = %v", r, l)
		}
		if again, e, _ := graph.Build(api.Roads{N: g.N, Edges: l}); e != api.OK || !same(again, g) {
			t.Errorf("G12: Build(Edges(%v)) = %v", g, again)
		}
		turned, e := graph.Turn(g)
		round := slices.Clone(l)
		for i, x := range round {
			round[i] = api.Edge{From: x.To, To: x.From, Weight: x.Weight}
		}
		if got := edgesOf(t, turned, e); !slices.Equal(got, stably(round, byFrom)) {
			t.Errorf("G5: Turn(%v) = %v", g, got)
		}
		twice, e := graph.Turn(turned)
		if got := edgesOf(t, twice, e); !slices.Equal(got, stably(l, byEnds)) {
			t.Errorf("G13: Turn(Turn(%v)) = %v", g, got)
		}
		sorted, e := graph.Sort(g)
		want := stably(l, byAll)
		if got := edgesOf(t, sorted, e); !slices.Equal(got, want) {
			t.Errorf("G6: Sort(%v) = %v", g, got)
		}
		merged, e := graph.Merge(g)
		want = slices.CompactFunc(want, func(a, b api.Edge) bool { return byEnds(a, b) == 0 })
		if got := edgesOf(t, merged, e); !slices.Equal(got, want) {
			t.Errorf("G6: Merge(%v) = %v", g, got)
		}
	}
}

func TestRelabelOfAny(t *testing.T) {
	dice := rand.New(rand.NewPCG(6, 2))
	for range 2000 {
		g := anyGraph(t, dice)
		order := dice.Perm(g.N)
		back := make([]int, g.N)
		for i, v := range order {
			back[v] = i
		}
		moved, e := graph.Relabel(g, order)
		if e != api.OK {
			t.Fatal(e)
		}
		for i, v := range order {
			var got, want []api.Edge
			for to, weight := range graph.Row(moved, i) {
				got = append(got, api.Edge{To: order[to], Weight: weight})
			}
			for to, weight := range graph.Row(g, v) {
				want = append(want, api.Edge{To: to, Weight: weight})
			}
			if !slices.Equal(got, want) {
				t.Errorf("G8: Relabel(%v, %v): the row of %d is %v", g, order, i, got)
			}
		}
		if again, e := graph.Relabel(moved, back); e != api.OK || !same(again, g) {
			t.Errorf("G14: Relabel(%v, %v) and back is %v, %d", g, order, again, e)
		}
	}
}

func TestPartsOfAny(t *testing.T) {
	dice := rand.New(rand.NewPCG(6, 3))
	for range 2000 {
		g := anyGraph(t, dice)
		k, m, greatest := 1+dice.IntN(9), len(g.To), 0
		for v := range g.N {
			greatest = max(greatest, g.Start[v+1]-g.Start[v])
		}
		l, e := graph.Parts(g, k)
		if e != api.OK || len(l) != k+1 || l[0] != 0 || l[k] != g.N {
			t.Fatalf("G9: Parts(%v, %d) = %v, %d", g, k, l, e)
		}
		for j := 1; j < k; j++ {
			want := 0
			for want < g.N && g.Start[want]*k < j*m {
				want++
			}
			if l[j] != want {
				t.Errorf("G9: Parts(%v, %d)[%d] = %d, want %d", g, k, j, l[j], want)
			}
		}
		for j := range k {
			if l[j+1] < l[j] {
				t.Errorf("G15: Parts(%v, %d) = %v falls", g, k, l)
			} else if (g.Start[l[j+1]]-g.Start[l[j]]-greatest)*k > m {
				t.Errorf("G15: Parts(%v, %d) = %v: the run %d has too many edges", g, k, l, j)
			}
		}
	}
}

func TestReachOfAny(t *testing.T) {
	dice := rand.New(rand.NewPCG(6, 4))
	for range 1000 {
		g := anyGraph(t, dice)
		turned, e := graph.Turn(g)
		if e != api.OK {
			t.Fatal(e)
		}
		l := edgesOf(t, g, e)
		there, back := make([][]bool, g.N), make([][]bool, g.N)
		for v := range g.N {
			there[v], _ = graph.Reach(g, []int{v})
			back[v], _ = graph.Reach(turned, []int{v})
			want := make([]bool, g.N)
			want[v] = true
			for range g.N { // as many rounds as a way has vertices
				for _, x := range l {
					want[x.To] = want[x.To] || want[x.From]
				}
			}
			if !slices.Equal(there[v], want) {
				t.Errorf("G10: Reach(%v, %d) = %v", g, v, there[v])
			}
		}
		for u := range g.N {
			for v := range g.N {
				if there[u][v] != back[v][u] {
					t.Errorf("G13: %v: from %d to %d and turned", g, u, v)
				}
			}
		}
	}
}
