// Package terms: what a search may be asked, in the order in which its faults are told: see DOC.md, chapter 9.
package terms

import (
	"wayfare/api"
	"wayfare/graph"
)

// Search tells what is wrong with what a search is asked.
func Search(g api.Graph, kind int, starts []api.Start) api.Errno {
	if e := Graph(g, kind); e != api.OK {
		return e
	}
	for _, s := range starts {
		switch {
		case !IsVertex(g, s.Vertex):
			return api.ErrVertex
		case s.Label > api.MaxLabel:
			return api.ErrLabel
		}
	}
	return api.OK
}

// Graph tells what is wrong with a graph, then with a kind.
func Graph(g api.Graph, kind int) api.Errno {
	if e, _ := graph.Check(g); e != api.OK {
		return e
	}
	return Kind(kind)
}

// Kind tells whether there is such a kind of searches.
func Kind(kind int) api.Errno {
	switch kind {
	case api.KindSum, api.KindHops, api.KindMax, api.KindLabel:
		return api.OK
	}
	return api.ErrKind
}

// WayKind tells whether a search from one vertex to another may be of a kind: one whose label is the same whichever end it is reckoned from.
func WayKind(kind int) api.Errno {
	switch kind {
	case api.KindSum, api.KindHops, api.KindMax:
		return api.OK
	}
	return api.ErrKind
}

// Join tells what the labels of two pieces of a way come to together, of a kind that WayKind takes; both are labels of searches, so that no sum wraps.
func Join(kind int, a, b uint64) uint64 {
	if kind == api.KindMax {
		return max(a, b)
	}
	return a + b
}

// IsVertex tells whether a graph has a vertex.
func IsVertex(g api.Graph, v int) bool {
	return v >= 0 && v < g.N
}

// Started are the labels at the beginning of a search of n vertices: at each the least one of its starts, which were looked over already.
func Started(n int, starts []api.Start) []uint64 {
	labels := make([]uint64, n)
	for v := range labels {
		labels[v] = api.Never
	}
	for _, s := range starts {
		labels[s.Vertex] = min(labels[s.Vertex], s.Label)
	}
	return labels
}
