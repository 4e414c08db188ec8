package voucher_test

import (
	"math/big"
	"math/rand/v2"

	"wayfare/api"
	"wayfare/graph"
	"wayfare/route"
)

const never uint64 = api.Never

var kinds = []int{api.KindSum, api.KindHops, api.KindMax, api.KindLabel}

func start(vertex int, label uint64) api.Start {
	return api.Start{Vertex: vertex, Label: label}
}

func edge(from, to int, weight uint64) api.Edge {
	return api.Edge{From: from, To: to, Weight: weight}
}

// build makes a graph of edges that are right.
func build(n int, edges ...api.Edge) api.Graph {
	g, e, at := graph.Build(api.Roads{N: n, Edges: edges})
	if e != api.OK {
		panic(at)
	}
	return g
}

// small is the graph of the chapter's examples.
func small() api.Graph {
	return build(4, edge(0, 1, 4), edge(0, 2, 1), edge(2, 1, 2), edge(3, 0, 5))
}

func made(labels []uint64, by, depth []int) api.Voucher {
	return api.Voucher{Labels: labels, By: by, Depth: depth}
}

func randomGraph(dice *rand.Rand, n, edges int) api.Graph {
	var list []api.Edge
	for range edges {
		list = append(list, edge(dice.IntN(n), dice.IntN(n), dice.Uint64N(3)))
	}
	return build(n, list...)
}

func randomStarts(dice *rand.Rand, n int) []api.Start {
	var list []api.Start
	for range dice.IntN(4) {
		list = append(list, start(dice.IntN(n), dice.Uint64N(4)))
	}
	return list
}

// holdsAt tells whether 1 to 4 hold of a vertex, one behind the other, as the chapter says them.
func holdsAt(g api.Graph, kind int, starts []api.Start, x api.Voucher, v int) bool {
	least := never
	for _, s := range starts {
		if s.Vertex == v {
			if x.Labels[v] > s.Label {
				return false
			}
			least = min(least, s.Label)
		}
	}
	reason := false
	for u := range g.N {
		for e := g.Start[u]; e < g.Start[u+1]; e++ {
			if g.To[e] != v || x.Labels[u] == never {
				continue
			}
			label, _ := route.Extend(kind, x.Labels[u], g.Weight[e])
			if x.Labels[v] > label {
				return false
			}
			next := new(big.Int).Add(big.NewInt(int64(x.Depth[u])), big.NewInt(1))
			if x.By[v] == e && x.Labels[v] == label && x.Depth[u] >= 0 && next.Cmp(big.NewInt(int64(x.Depth[v]))) == 0 {
				reason = true
			}
		}
	}
	if x.By[v] == -1 {
		return x.Depth[v] == 0 && x.Labels[v] == least
	}
	return reason
}

// checkByWords is Check of lists that are long enough.
func checkByWords(g api.Graph, kind int, starts []api.Start, x api.Voucher) (api.Errno, int) {
	for v := range g.N {
		if !holdsAt(g, kind, starts, x, v) {
			return api.ErrProof, v
		}
	}
	return api.OK, 0
}
