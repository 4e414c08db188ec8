package seek

import (
	"slices"

	"wayfare/api"
	"wayfare/graph"
	"wayfare/route"
	"wayfare/terms"
)

// Mark tells how far all vertices are from landmarks, and to them.
func Mark(g api.Graph, at []int) (api.Marks, api.Errno) {
	if e, _ := graph.Check(g); e != api.OK {
		return api.Marks{}, e
	}
	if slices.ContainsFunc(at, func(v int) bool { return !terms.IsVertex(g, v) }) {
		return api.Marks{}, api.ErrVertex
	}
	if len(at) > api.MaxMarks {
		return api.Marks{}, api.ErrSize
	}
	turned, _ := graph.Turn(g)
	m := api.Marks{At: slices.Clone(at)}
	for _, v := range at {
		m.From = append(m.From, distances(g, v))
		m.To = append(m.To, distances(turned, v))
	}
	return m, api.OK
}

// distances tells how far each vertex is from the nearest of some.
func distances(g api.Graph, from ...int) []uint64 {
	starts := make([]api.Start, len(from))
	for i, v := range from {
		starts[i].Vertex = v
	}
	labels, _ := route.Search(g, api.KindSum, starts)
	return labels
}

// Check tells whether marks are those of their landmarks; if not, of which one.
func Check(g api.Graph, m api.Marks) (api.Errno, int) {
	if e, _ := graph.Check(g); e != api.OK {
		return e, 0
	}
	if len(m.From) != len(m.At) || len(m.To) != len(m.At) {
		return api.ErrList, 0
	}
	if len(m.At) > api.MaxMarks {
		return api.ErrSize, 0
	}
	turned, _ := graph.Turn(g)
	for i, v := range m.At {
		switch {
		case !terms.IsVertex(g, v):
			return api.ErrVertex, i
		case len(m.From[i]) != g.N || len(m.To[i]) != g.N:
			return api.ErrList, i
		case !areDistances(g, v, m.From[i]) || !areDistances(turned, v, m.To[i]):
			return api.ErrProof, i
		}
	}
	return api.OK, 0
}

// areDistances tells whether labels are the distances from a vertex, without a search: going from it along edges that just make the label of their end, each vertex that is not Never must be met, and no edge may make less. What is met has the label of a way, so no sum wraps.
func areDistances(g api.Graph, from int, labels []uint64) bool {
	if labels[from] != 0 {
		return false
	}
	met := make([]bool, g.N)
	met[from] = true
	for open := []int{from}; len(open) > 0; {
		u := open[len(open)-1]
		open = open[:len(open)-1]
		for place := g.Start[u]; place < g.Start[u+1]; place++ {
			v, label := g.To[place], labels[u]+g.Weight[place]
			if label < labels[v] {
				return false
			}
			if label == labels[v] && !met[v] {
				met[v] = true
				open = append(open, v)
			}
		}
	}
	for v, label := range labels {
		if !met[v] && label != api.Never {
			return false
		}
	}
	return true
}

// bound is Bound of marks that are right.
func bound(m api.Marks, from, to int) uint64 {
	most := uint64(0)
	for i := range m.At {
		// of the two distances, a way between the two vertices makes the second no greater than the first and itself
		for _, d := range [2][2]uint64{{m.From[i][from], m.From[i][to]}, {m.To[i][to], m.To[i][from]}} {
			near, far := d[0], d[1]
			switch {
			case near == api.Never:
			case far == api.Never:
				return api.Never
			case far > near:
				most = max(most, far-near)
			}
		}
	}
	return most
}

// Far tells landmarks, each as far as can be from those ahead.
func Far(g api.Graph, first, count int) ([]int, api.Errno) {
	if e, _ := graph.Check(g); e != api.OK {
		return nil, e
	}
	if !terms.IsVertex(g, first) {
		return nil, api.ErrVertex
	}
	if count < 1 || count > api.MaxMarks {
		return nil, api.ErrSize
	}
	at := []int{first}
	for len(at) < count {
		labels := distances(g, at...)
		farthest := slices.Max(labels)
		if farthest == 0 { // so it is at the latest when all vertices are landmarks
			break
		}
		at = append(at, slices.Index(labels, farthest))
	}
	return at, api.OK
}
