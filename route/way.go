package route

import (
	"slices"

	"wayfare/api"
	"wayfare/graph"
	"wayfare/terms"
)

// Path tells the edges of a tree on the way to a vertex.
func Path(g api.Graph, by []int, to int) ([]int, api.Errno) {
	if e, _ := graph.Check(g); e != api.OK {
		return nil, e
	}
	if len(by) != g.N {
		return nil, api.ErrList
	}
	if !terms.IsVertex(g, to) {
		return nil, api.ErrVertex
	}
	var way []int
	for v := to; by[v] != noEdge; {
		place := by[v]
		switch {
		case !isPlace(g, place) || g.To[place] != v:
			return nil, api.ErrPlace
		case len(way) == g.N:
			return nil, api.ErrReach
		}
		way = append(way, place)
		v = source(g, place)
	}
	slices.Reverse(way)
	return way, api.OK
}

// Length tells what a label is behind a way of edges.
func Length(g api.Graph, kind int, label uint64, way []int) (uint64, api.Errno) {
	if e := terms.Graph(g, kind); e != api.OK {
		return 0, e
	}
	for i, place := range way {
		switch {
		case !isPlace(g, place):
			return 0, api.ErrPlace
		case i > 0 && source(g, place) != g.To[way[i-1]]:
			return 0, api.ErrReach
		}
		label = extend(kind, label, g.Weight[place])
	}
	return label, api.OK
}

// isPlace tells whether an edge has a place.
func isPlace(g api.Graph, place int) bool {
	return place >= 0 && place < len(g.To)
}

// source is the vertex in whose row an edge stands.
func source(g api.Graph, place int) int {
	behind, _ := slices.BinarySearch(g.Start, place+1) // the first row that begins behind it
	return behind - 1
}
