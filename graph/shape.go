package graph

import (
	"cmp"
	"slices"

	"wayfare/api"
)

// Turn turns each edge round.
func Turn(g api.Graph) (api.Graph, api.Errno) {
	if e, _ := Check(g); e != api.OK {
		return api.Graph{}, e
	}
	turned := func(x api.Edge) api.Edge {
		return api.Edge{From: x.To, To: x.From, Weight: x.Weight}
	}
	return arrange(g.N, edges(g, turned)), api.OK
}

// Sort sorts each row.
func Sort(g api.Graph) (api.Graph, api.Errno) {
	if e, _ := Check(g); e != api.OK {
		return api.Graph{}, e
	}
	return arrange(g.N, slices.Values(sorted(g))), api.OK
}

// Merge leaves of several edges between two vertices the lightest.
func Merge(g api.Graph) (api.Graph, api.Errno) {
	if e, _ := Check(g); e != api.OK {
		return api.Graph{}, e
	}
	// Of sorted edges the lightest stands first, and of those alike Compact leaves the first.
	list := slices.CompactFunc(sorted(g), func(a, b api.Edge) bool {
		return a.From == b.From && a.To == b.To
	})
	return arrange(g.N, slices.Values(list)), api.OK
}

// Relabel gives the vertex order[i] the number i.
func Relabel(g api.Graph, order []int) (api.Graph, api.Errno) {
	if e, _ := Check(g); e != api.OK {
		return api.Graph{}, e
	}
	number, ok := numbers(g.N, order)
	if !ok {
		return api.Graph{}, api.ErrList
	}
	renamed := func(x api.Edge) api.Edge {
		return api.Edge{From: number[x.From], To: number[x.To], Weight: x.Weight}
	}
	return arrange(g.N, edges(g, renamed)), api.OK
}

// sorted are all edges, row by row, each row by ends, then by weights.
func sorted(g api.Graph) []api.Edge {
	list := listed(g)
	for v := range g.N {
		slices.SortFunc(list[g.Start[v]:g.Start[v+1]], func(a, b api.Edge) int {
			return cmp.Or(cmp.Compare(a.To, b.To), cmp.Compare(a.Weight, b.Weight))
		})
	}
	return list
}

// numbers tells for each vertex where it stands in order; not ok, if order has not each of them once.
func numbers(n int, order []int) ([]int, bool) {
	if len(order) != n {
		return nil, false
	}
	number := make([]int, n)
	known := make([]bool, n)
	for i, v := range order {
		if !isVertex(n, v) || known[v] {
			return nil, false
		}
		number[v], known[v] = i, true
	}
	return number, true
}
