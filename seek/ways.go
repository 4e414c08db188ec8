package seek

import (
	"slices"

	"wayfare/api"
	"wayfare/graph"
	"wayfare/terms"
)

// fromBothEnds finds a way that has the least label, if there is one.
//
// A side has spread from each vertex whose label is below that of the one that is next there. So on a way whose label is below what the two next ones come to, both sides have come to one vertex with no more than the pieces of the way up to it and from it: the best way known is as good.
//
// Its pieces have no vertex in common but the one where they meet: any other would have been reached from both ends ahead of that one, with no greater a label, and would be the meeting place, since only what is better takes its place.
func fromBothEnds(g api.Graph, kind, from, to int) (api.Way, bool) {
	rows := numbered(g)
	turned, _ := graph.Turn(rows)
	anywhere := func(int) uint64 { return 0 }
	out, back := newSide(g, kind, rows, from, anywhere), newSide(g, kind, turned, to, anywhere)
	best, meet := uint64(api.Never), none
	look := func(v int) {
		a, left := out.reached[v]
		b, came := back.reached[v]
		if label := terms.Join(kind, a.label, b.label); left && came && label < best {
			best, meet = label, v
		}
	}
	look(from)
	for !out.waiting.Empty() && !back.waiting.Empty() {
		a, b := out.waiting.First().label, back.waiting.First().label
		if terms.Join(kind, a, b) >= best {
			break
		}
		if a <= b {
			out.spread(look)
		} else {
			back.spread(look)
		}
	}
	if meet == none {
		return api.Way{}, false
	}
	edges := out.chain(meet)
	slices.Reverse(edges)
	return api.Way{Label: best, Edges: append(edges, back.chain(meet)...)}, true
}

// byMarks finds a way that has the least label of KindSum, if there is one. Along an edge a Bound falls by no more than the edge's weight: so the first label with which to is next is its least.
func byMarks(g api.Graph, m api.Marks, from, to int) (api.Way, bool) {
	s := newSide(g, api.KindSum, numbered(g), from, func(v int) uint64 { return bound(m, v, to) })
	for !s.waiting.Empty() && s.waiting.First().vertex != to {
		s.spread(func(int) {})
	}
	end, found := s.reached[to]
	if !found {
		return api.Way{}, false
	}
	edges := s.chain(to)
	slices.Reverse(edges)
	return api.Way{Label: end.label, Edges: edges}, true
}
