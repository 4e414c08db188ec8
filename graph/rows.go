package graph

import (
	"iter"
	"slices"

	"wayfare/api"
)

// Row goes through the edges of a vertex: ends and weights.
func Row(g api.Graph, v int) iter.Seq2[int, uint64] {
	if e, _ := Check(g); e != api.OK || !isVertex(g.N, v) {
		return func(func(int, uint64) bool) {}
	}
	from, to := g.Start[v], g.Start[v+1]
	// A copy, since the row may be gone through when the caller has long changed his graph.
	alone := api.Graph{
		N:      1,
		Start:  []int{0, to - from},
		To:     slices.Clone(g.To[from:to]),
		Weight: slices.Clone(g.Weight[from:to]),
	}
	return row(alone, 0)
}

// row goes through the edges of a vertex of a graph that was looked over already: asking that again for each row would take the square of the time.
func row(g api.Graph, v int) iter.Seq2[int, uint64] {
	return func(yield func(int, uint64) bool) {
		for e := g.Start[v]; e < g.Start[v+1]; e++ {
			if !yield(g.To[e], g.Weight[e]) {
				return
			}
		}
	}
}

// edges goes through all edges, row by row, each as change makes it.
func edges(g api.Graph, change func(api.Edge) api.Edge) iter.Seq[api.Edge] {
	return func(yield func(api.Edge) bool) {
		for v := range g.N {
			for to, weight := range row(g, v) {
				if !yield(change(api.Edge{From: v, To: to, Weight: weight})) {
					return
				}
			}
		}
	}
}

// listed are all edges, row by row.
func listed(g api.Graph) []api.Edge {
	asTheyAre := func(x api.Edge) api.Edge { return x }
	return slices.AppendSeq(make([]api.Edge, 0, len(g.To)), edges(g, asTheyAre))
}

// arrange puts edges into rows, those of one vertex in the order in which they come. They are gone through twice: the rows must be measured ahead of being filled.
func arrange(n int, edges iter.Seq[api.Edge]) api.Graph {
	start := make([]int, n+1)
	for x := range edges {
		start[x.From+1]++
	}
	for v := range n {
		start[v+1] += start[v]
	}
	next := slices.Clone(start[:n])
	to, weight := make([]int, start[n]), make([]uint64, start[n])
	for x := range edges {
		at := next[x.From]
		to[at], weight[at] = x.To, x.Weight
		next[x.From]++
	}
	return api.Graph{N: n, Start: start, To: to, Weight: weight}
}
