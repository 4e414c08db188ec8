package route_test

import (
	"math/big"
	"math/rand/v2"

	"wayfare/api"
	"wayfare/graph"
)

const never uint64 = api.Never

// kinds are all kinds of searches.
var kinds = []int{api.KindSum, api.KindHops, api.KindMax, api.KindLabel}

func start(vertex int, label uint64) api.Start {
	return api.Start{Vertex: vertex, Label: label}
}

func edge(from, to int, weight uint64) api.Edge {
	return api.Edge{From: from, To: to, Weight: weight}
}

// build makes a graph of edges that are right.
func build(n int, edges ...api.Edge) api.Graph {
	g, e, at := graph.Build(api.Roads{N: n, Edges: edges})
	if e != api.OK {
		panic(at)
	}
	return g
}

// small is the graph of the chapter's examples.
func small() api.Graph {
	return build(4, edge(0, 1, 5), edge(0, 2, 1), edge(1, 2, 0), edge(2, 1, 2))
}

// randomGraph has weights that often make sums alike, and some that are as great as may be.
func randomGraph(dice *rand.Rand, n, edges int) api.Graph {
	var list []api.Edge
	for range edges {
		weight := dice.Uint64N(4)
		if dice.IntN(8) == 0 {
			weight = api.MaxWeight - weight
		}
		list = append(list, edge(dice.IntN(n), dice.IntN(n), weight))
	}
	return build(n, list...)
}

func randomStarts(dice *rand.Rand, n int) []api.Start {
	var list []api.Start
	for range dice.IntN(4) {
		label := dice.Uint64N(5)
		if dice.IntN(6) == 0 {
			label = api.MaxLabel - label
		}
		list = append(list, start(dice.IntN(n), label))
	}
	return list
}

// extended is Extend as R2 says it, reckoned with numbers that do not wrap round.
func extended(kind int, label, weight uint64) uint64 {
	if label == never {
		return never
	}
	x, w := new(big.Int).SetUint64(label), new(big.Int).SetUint64(weight)
	switch kind {
	case api.KindSum:
		x.Add(x, w)
	case api.KindHops:
		x.Add(x, big.NewInt(1))
	case api.KindMax:
		if w.Cmp(x) > 0 {
			x = w
		}
	}
	if most := new(big.Int).SetUint64(never - 1); x.Cmp(most) > 0 {
		x = most
	}
	return x.Uint64()
}

// leastByWays goes every way without a vertex twice from every start.
func leastByWays(g api.Graph, kind int, starts []api.Start) []uint64 {
	labels := make([]uint64, g.N)
	for v := range labels {
		labels[v] = never
	}
	met := make([]bool, g.N)
	var walk func(v int, label uint64)
	walk = func(v int, label uint64) {
		labels[v] = min(labels[v], label)
		met[v] = true
		for e := g.Start[v]; e < g.Start[v+1]; e++ {
			if !met[g.To[e]] {
				walk(g.To[e], extended(kind, label, g.Weight[e]))
			}
		}
		met[v] = false
	}
	for _, s := range starts {
		walk(s.Vertex, s.Label)
	}
	return labels
}

// roundsByWords is Rounds as R5 says it.
func roundsByWords(g api.Graph, kind int, starts []api.Start) ([]uint64, int) {
	labels := make([]uint64, g.N)
	for v := range labels {
		labels[v] = never
	}
	for _, s := range starts {
		labels[s.Vertex] = min(labels[s.Vertex], s.Label)
	}
	for n := 1; ; n++ {
		changed := false
		for u := range g.N {
			for e := g.Start[u]; e < g.Start[u+1]; e++ {
				if x := extended(kind, labels[u], g.Weight[e]); x < labels[g.To[e]] {
					labels[g.To[e]] = x
					changed = true
				}
			}
		}
		if !changed {
			return labels, n
		}
	}
}

// treeByWords is Tree of the least labels as R6 says it: depth by depth over all edges.
func treeByWords(g api.Graph, kind int, starts []api.Start, labels []uint64) ([]int, []int) {
	by, depth := make([]int, g.N), make([]int, g.N)
	for v := range g.N {
		by[v], depth[v] = -1, -1
		if labels[v] == never {
			depth[v] = 0
		}
		for _, s := range starts {
			if s.Vertex == v && s.Label == labels[v] {
				depth[v] = 0
			}
		}
	}
	for d := range g.N {
		for u := range g.N {
			if depth[u] != d || labels[u] == never {
				continue
			}
			for e := g.Start[u]; e < g.Start[u+1]; e++ {
				v := g.To[e]
				if depth[v] == -1 && extended(kind, labels[u], g.Weight[e]) == labels[v] {
					by[v], depth[v] = e, d+1
				}
			}
		}
	}
	return by, depth
}
