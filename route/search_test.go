package route_test

import (
	"math/rand/v2"
	"slices"
	"testing"

	"wayfare/api"
	"wayfare/graph"
	"wayfare/route"
)

func TestSearchesOfTheExamples(t *testing.T) {
	g, first := small(), []api.Start{start(0, 0)}
	all := []api.Start{start(0, 0), start(1, 1), start(2, 2), start(3, 3)}
	for _, c := range []struct {
		kind   int
		starts []api.Start
		want   []uint64
		rounds int
	}{
		{api.KindSum, first, []uint64{0, 3, 1, never}, 2},
		{api.KindHops, first, []uint64{0, 1, 1, never}, 2},
		{api.KindMax, first, []uint64{0, 2, 1, never}, 2},
		{api.KindLabel, all, []uint64{0, 0, 0, 3}, 2},
		{api.KindLabel, first, []uint64{0, 0, 0, never}, 2},
		{api.KindSum, nil, []uint64{never, never, never, never}, 1},
		{api.KindSum, []api.Start{}, []uint64{never, never, never, never}, 1},
		{api.KindSum, []api.Start{start(3, 7)}, []uint64{never, never, never, 7}, 1},
		{api.KindSum, []api.Start{start(1, 9), start(1, 4), start(1, 6)}, []uint64{never, 4, 4, never}, 2},
		{api.KindSum, []api.Start{start(0, api.MaxLabel)}, []uint64{api.MaxLabel, api.MaxLabel + 3, api.MaxLabel + 1, never}, 2},
		{api.KindSum, []api.Start{start(2, 10), start(0, 0), start(1, 2)}, []uint64{0, 2, 1, never}, 2},
		{api.KindHops, []api.Start{start(2, 0)}, []uint64{never, 1, 0, never}, 2},
	} {
		if l, e := route.Search(g, c.kind, c.starts); !slices.Equal(l, c.want) || e != api.OK {
			t.Errorf("R4: Search(%d, %v) = %v, %d, want %v", c.kind, c.starts, l, e, c.want)
		}
		if l, n, e := route.Rounds(g, c.kind, c.starts); !slices.Equal(l, c.want) || n != c.rounds || e != api.OK {
			t.Errorf("R5: Rounds(%d, %v) = %v, %d, %d, want %v, %d", c.kind, c.starts, l, n, e, c.want, c.rounds)
		}
	}
}

func TestSearchesWithoutVertices(t *testing.T) {
	for _, kind := range kinds {
		if l, e := route.Search(build(0), kind, nil); len(l) != 0 || e != api.OK {
			t.Errorf("R4: no vertices: %v, %d", l, e)
		}
		if l, n, e := route.Rounds(build(0), kind, nil); len(l) != 0 || n != 1 || e != api.OK {
			t.Errorf("R10: no vertices: %v, %d, %d", l, n, e)
		}
	}
}

func TestCirclesOfWeightNothing(t *testing.T) {
	g := build(4, edge(0, 1, 0), edge(1, 2, 0), edge(2, 0, 0), edge(1, 1, 0), edge(2, 3, 1), edge(3, 2, 0))
	for _, kind := range kinds {
		want := leastByWays(g, kind, []api.Start{start(2, 5)})
		if l, e := route.Search(g, kind, []api.Start{start(2, 5)}); !slices.Equal(l, want) || e != api.OK {
			t.Errorf("R4: kind %d: %v, %d, want %v", kind, l, e, want)
		}
	}
}

func TestSearchTellsTheLeastLabels(t *testing.T) {
	dice := rand.New(rand.NewPCG(9, 2))
	for range 3000 {
		n := 1 + dice.IntN(6)
		g, starts := randomGraph(dice, n, dice.IntN(13)), randomStarts(dice, n)
		for _, kind := range kinds {
			want := leastByWays(g, kind, starts)
			if l, e := route.Search(g, kind, starts); !slices.Equal(l, want) || e != api.OK {
				t.Fatalf("R4: %v, kind %d, %v: %v, %d, want %v", g, kind, starts, l, e, want)
			}
		}
	}
}

func TestBellmansEquations(t *testing.T) {
	dice := rand.New(rand.NewPCG(9, 3))
	for range 300 {
		n := 1 + dice.IntN(60)
		g, starts := randomGraph(dice, n, dice.IntN(4*n)), randomStarts(dice, n)
		for _, kind := range kinds {
			labels, _ := route.Search(g, kind, starts)
			reason := make([]bool, n)
			for _, s := range starts {
				reason[s.Vertex] = reason[s.Vertex] || labels[s.Vertex] == s.Label
			}
			for u := range n {
				for e := g.Start[u]; e < g.Start[u+1]; e++ {
					x, v := extended(kind, labels[u], g.Weight[e]), g.To[e]
					if x < labels[v] {
						t.Fatalf("R9: the edge %d lowers the label of %d: %v", e, v, labels)
					}
					reason[v] = reason[v] || labels[u] != never && x == labels[v]
				}
			}
			for v := range n {
				if labels[v] != never && !reason[v] {
					t.Fatalf("R9: %d has its label from nowhere: %v", v, labels)
				}
			}
		}
	}
}

func TestRoundsGoAsTheyAreTold(t *testing.T) {
	dice := rand.New(rand.NewPCG(9, 4))
	most := 0
	for range 2000 {
		n := 1 + dice.IntN(20)
		g, starts := randomGraph(dice, n, dice.IntN(4*n)), randomStarts(dice, n)
		for _, kind := range kinds {
			want, rounds := roundsByWords(g, kind, starts)
			l, got, e := route.Rounds(g, kind, starts)
			if !slices.Equal(l, want) || got != rounds || e != api.OK {
				t.Fatalf("R5: %v, kind %d, %v: %v, %d, %d, want %v, %d", g, kind, starts, l, got, e, want, rounds)
			}
			least, _ := route.Search(g, kind, starts)
			if !slices.Equal(l, least) || got > n+1 || got < 1 {
				t.Fatalf("R10: %v, kind %d: %v, %d, Search %v", g, kind, l, got, least)
			}
			most = max(most, got)
		}
	}
	if most < 5 {
		t.Errorf("at most %d rounds were gone: graphs that are too easy", most)
	}
}

// backwards is a row of edges, each from a vertex to the one ahead of it, so that a round lowers one label.
func backwards(n int, weight uint64) api.Graph {
	g := api.Graph{N: n, Start: make([]int, n+1), To: make([]int, n-1), Weight: make([]uint64, n-1)}
	for v := 1; v < n; v++ {
		g.Start[v+1], g.To[v-1], g.Weight[v-1] = v, v-1, weight
	}
	return g
}

func TestTheGreatestLabel(t *testing.T) {
	const n = api.MaxVertices
	g := backwards(n, api.MaxWeight)
	starts := []api.Start{start(n-1, api.MaxLabel)}
	const most = api.MaxLabel + (n-1)*api.MaxWeight
	labels, e := route.Search(g, api.KindSum, starts)
	if e != api.OK || labels[0] != most {
		t.Errorf("Limits: the greatest label is %d, %d", labels[0], e)
	}
	again, rounds, e := route.Rounds(g, api.KindSum, starts)
	if e != api.OK || rounds != n || !slices.Equal(labels, again) {
		t.Errorf("R10: %d rounds, %d", rounds, e)
	}
	by, depth, e := route.Tree(g, api.KindSum, starts, labels)
	if e != api.OK || by[0] != 0 || depth[0] != n-1 || by[n-1] != -1 {
		t.Errorf("R6: a deep tree: %d", e)
	}
	way, e := route.Path(g, by, 0)
	if x, f := route.Length(g, api.KindSum, api.MaxLabel, way); e != api.OK || f != api.OK || len(way) != n-1 || x != most {
		t.Errorf("R11: a long way: %d, %d, %d", x, e, f)
	}
}

func TestMoreNeverMakesALabelGreater(t *testing.T) {
	dice := rand.New(rand.NewPCG(9, 5))
	for range 500 {
		n := 1 + dice.IntN(12)
		g, starts := randomGraph(dice, n, dice.IntN(3*n)), randomStarts(dice, n)
		r, _ := graph.Edges(g)
		more := build(n, append(r.Edges, edge(dice.IntN(n), dice.IntN(n), dice.Uint64N(3)))...)
		for _, kind := range kinds {
			labels, _ := route.Search(g, kind, starts)
			byEdge, _ := route.Search(more, kind, starts)
			byStart, _ := route.Search(g, kind, append(slices.Clone(starts), start(dice.IntN(n), dice.Uint64N(3))))
			for v := range n {
				if byEdge[v] > labels[v] || byStart[v] > labels[v] {
					t.Fatalf("R12: %v, kind %d: %v, an edge more %v, a start more %v", g, kind, labels, byEdge, byStart)
				}
			}
		}
	}
}

func TestTurnedRound(t *testing.T) {
	dice := rand.New(rand.NewPCG(9, 6))
	for range 300 {
		n := 1 + dice.IntN(15)
		g := randomGraph(dice, n, dice.IntN(4*n))
		back, _ := graph.Turn(g)
		for _, kind := range []int{api.KindSum, api.KindHops, api.KindMax} {
			from, to := dice.IntN(n), dice.IntN(n)
			there, _ := route.Search(g, kind, []api.Start{start(from, 0)})
			again, _ := route.Search(back, kind, []api.Start{start(to, 0)})
			if there[to] != again[from] {
				t.Fatalf("R13: %v, kind %d, from %d to %d: %d, turned %d", g, kind, from, to, there[to], again[from])
			}
		}
	}
}
