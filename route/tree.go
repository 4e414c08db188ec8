package route

import (
	"slices"

	"wayfare/api"
	"wayfare/terms"
)

const (
	noEdge  = -1 // instead of an edge's place
	noDepth = -1 // not yet found
)

// Tree tells for each vertex the edge that it has its label by, and how many edges it is from a start.
func Tree(g api.Graph, kind int, starts []api.Start, labels []uint64) ([]int, []int, api.Errno) {
	if e := terms.Search(g, kind, starts); e != api.OK {
		return nil, nil, e
	}
	if len(labels) != g.N {
		return nil, nil, api.ErrList
	}
	if !slices.Equal(labels, search(g, kind, starts)) {
		return nil, nil, api.ErrLabel
	}
	t := tree{g: g, kind: kind, labels: labels, by: slices.Repeat([]int{noEdge}, g.N), depth: slices.Repeat([]int{noDepth}, g.N)}
	layer := t.roots(starts)
	for d := 1; len(layer) > 0; d++ {
		layer = t.grow(layer, d)
	}
	return t.by, t.depth, api.OK
}

// tree is how far a tree has grown.
type tree struct {
	g         api.Graph
	kind      int
	labels    []uint64
	by, depth []int
}

// roots sets the depth 0, and tells the vertices of it that are reached.
func (t *tree) roots(starts []api.Start) []int {
	var layer []int
	for _, s := range starts {
		if s.Label == t.labels[s.Vertex] && t.depth[s.Vertex] == noDepth {
			t.depth[s.Vertex] = 0
			layer = append(layer, s.Vertex)
		}
	}
	for v, label := range t.labels {
		if label == api.Never {
			t.depth[v] = 0
		}
	}
	return layer
}

// grow sets the depth d behind the vertices of the depth ahead of it, and tells the vertices of it.
func (t *tree) grow(layer []int, d int) []int {
	var next []int
	for _, u := range layer {
		for place := t.g.Start[u]; place < t.g.Start[u+1]; place++ {
			v := t.g.To[place]
			if extend(t.kind, t.labels[u], t.g.Weight[place]) != t.labels[v] {
				continue
			}
			switch t.depth[v] {
			case noDepth:
				t.depth[v], t.by[v] = d, place
				next = append(next, v)
			case d: // the layer is in no order
				t.by[v] = min(t.by[v], place)
			}
		}
	}
	return next
}
