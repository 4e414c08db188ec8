package graph

import (
	"cmp"
	"slices"

	"wayfare/api"
)

// ByDegree tells the vertices, those with the most edges first.
func ByDegree(g api.Graph) ([]int, api.Errno) {
	if e, _ := Check(g); e != api.OK {
		return nil, e
	}
	order := make([]int, g.N)
	for v := range g.N {
		order[v] = v
	}
	degree := func(v int) int { return g.Start[v+1] - g.Start[v] }
	slices.SortFunc(order, func(a, b int) int {
		return cmp.Or(cmp.Compare(degree(b), degree(a)), cmp.Compare(a, b))
	})
	return order, api.OK
}

// Parts cuts the vertices into k runs of about as many edges.
func Parts(g api.Graph, k int) ([]int, api.Errno) {
	if e, _ := Check(g); e != api.OK {
		return nil, e
	}
	if k < 1 || k > api.MaxVertices {
		return nil, api.ErrShape
	}
	cuts := make([]int, k+1)
	v := 0
	for j := 1; j < k; j++ {
		for g.Start[v]*k < j*len(g.To) { // it ends at N at the latest, where Start is all edges
			v++
		}
		cuts[j] = v
	}
	cuts[k] = g.N
	return cuts, api.OK
}

// Reach tells which vertices can be reached.
func Reach(g api.Graph, from []int) ([]bool, api.Errno) {
	if e, _ := Check(g); e != api.OK {
		return nil, e
	}
	if slices.ContainsFunc(from, func(v int) bool { return !isVertex(g.N, v) }) {
		return nil, api.ErrVertex
	}
	reached := make([]bool, g.N)
	var open []int // reached, and its row not yet gone through
	reach := func(v int) {
		if !reached[v] {
			reached[v] = true
			open = append(open, v)
		}
	}
	for _, v := range from {
		reach(v)
	}
	for len(open) > 0 {
		v := open[len(open)-1]
		open = open[:len(open)-1]
		for to := range row(g, v) {
			reach(to)
		}
	}
	return reached, api.OK
}
