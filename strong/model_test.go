package strong_test

import (
	"math/rand/v2"
	"slices"

	"wayfare/api"
	"wayfare/graph"
)

func edge(from, to int, weight uint64) api.Edge {
	return api.Edge{From: from, To: to, Weight: weight}
}

// build makes a graph of edges that are right.
func build(n int, edges ...api.Edge) api.Graph {
	g, e, at := graph.Build(api.Roads{N: n, Edges: edges})
	if e != api.OK {
		panic(at)
	}
	return g
}

// example is the graph of the chapter.
func example() api.Graph {
	return api.Graph{N: 5, Start: []int{0, 1, 3, 5, 6, 6}, To: []int{1, 2, 4, 1, 4, 3}, Weight: []uint64{3, 1, 2, 4, 9, 0}}
}

// source is the vertex from which the edge of a place goes.
func source(g api.Graph, place int) int {
	v := 0
	for g.Start[v+1] <= place {
		v++
	}
	return v
}

// allSmall goes over all graphs of n vertices with at most one edge from each vertex to each, weights by place.
func allSmall(n int, tell func(api.Graph)) {
	for bits := range 1 << (n * n) {
		var edges []api.Edge
		for i := range n * n {
			if bits>>i&1 == 1 {
				edges = append(edges, edge(i/n, i%n, uint64(i*7%5)))
			}
		}
		tell(build(n, edges...))
	}
}

// someOf goes over graphs by chance: sparse and dense, with and without circles, with loops and several edges between two vertices.
func someOf(many int, seed uint64, tell func(api.Graph)) {
	dice := rand.New(rand.NewPCG(21, seed))
	for range many {
		n := 1 + dice.IntN(14)
		name := dice.Perm(n)
		oneWay := dice.IntN(2) == 0
		var edges []api.Edge
		for range dice.IntN(3 * n) {
			a, b := dice.IntN(n), dice.IntN(n)
			if oneWay && a == b {
				continue
			}
			if oneWay && a > b {
				a, b = b, a
			}
			edges = append(edges, edge(name[a], name[b], dice.Uint64N(4)))
		}
		tell(build(n, edges...))
	}
}

// reaches tells from which vertex which one can be reached, as graph.Reach says.
func reaches(g api.Graph) [][]bool {
	out := make([][]bool, g.N)
	for v := range out {
		out[v], _ = graph.Reach(g, []int{v})
	}
	return out
}

// partsByWords are the parts as the chapter's words say.
func partsByWords(g api.Graph) []int {
	reach := reaches(g)
	parts := slices.Repeat([]int{-1}, g.N)
	next := 0
	for v := range g.N {
		if parts[v] != -1 {
			continue
		}
		for u := range g.N {
			if reach[u][v] && reach[v][u] {
				parts[u] = next
			}
		}
		next++
	}
	return parts
}

// condenseByWords is the graph of S2, pair of parts by pair of parts.
func condenseByWords(g api.Graph) api.Graph {
	parts := partsByWords(g)
	n := 0
	for _, p := range parts {
		n = max(n, p+1)
	}
	all, _ := graph.Edges(g)
	var edges []api.Edge
	for p := range n {
		for q := range n {
			least, found := uint64(0), false
			for _, x := range all.Edges {
				if p != q && parts[x.From] == p && parts[x.To] == q && (!found || x.Weight < least) {
					least, found = x.Weight, true
				}
			}
			if found {
				edges = append(edges, edge(p, q, least))
			}
		}
	}
	return build(n, edges...)
}

// hasCircle tells whether some vertex can be reached from where one of its own edges goes.
func hasCircle(g api.Graph) bool {
	reach := reaches(g)
	for place, to := range g.To {
		if reach[to][source(g, place)] {
			return true
		}
	}
	return false
}

// orderByWords is the order of S4; false, if at some time no vertex may come.
func orderByWords(g api.Graph) ([]int, bool) {
	var come []int
	for len(come) < g.N {
		next := -1
		for v := g.N - 1; v >= 0; v-- {
			if !slices.Contains(come, v) && !waitsForOne(g, come, v) {
				next = v
			}
		}
		if next < 0 {
			return nil, false
		}
		come = append(come, next)
	}
	return come, true
}

// waitsForOne tells whether an edge goes to v from a vertex that has not come.
func waitsForOne(g api.Graph, come []int, v int) bool {
	for place, to := range g.To {
		if to == v && !slices.Contains(come, source(g, place)) {
			return true
		}
	}
	return false
}

// longestByWords is S5 of a graph without circles: the ends of all ways of no edge, of one, of two ..
func longestByWords(g api.Graph) []int {
	longest := make([]int, g.N)
	ends := slices.Repeat([]bool{true}, g.N)
	for edges := 0; slices.Contains(ends, true); edges++ {
		next := make([]bool, g.N)
		for v, is := range ends {
			if is {
				longest[v] = edges
			}
		}
		for place, to := range g.To {
			next[to] = next[to] || ends[source(g, place)]
		}
		ends = next
	}
	return longest
}

func same(a, b api.Graph) bool {
	return a.N == b.N && slices.Equal(a.Start, b.Start) && slices.Equal(a.To, b.To) && slices.Equal(a.Weight, b.Weight)
}

func nothing(g api.Graph) bool {
	return g.N == 0 && g.Start == nil && g.To == nil && g.Weight == nil
}
