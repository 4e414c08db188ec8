package seek

import (
	"wayfare/api"
	"wayfare/queue"
	"wayfare/route"
)

// none is instead of a vertex, or of an edge's place.
const none = -1

// arrival is how a vertex was reached: with which label, from which vertex, along the edge of which place.
type arrival struct {
	label       uint64
	from, place int
}

// visit is a vertex that waits with the label that it was given; rank is what a whole way over it comes to at least.
type visit struct {
	rank, label uint64
	vertex      int
}

// side is a search from one end.
type side struct {
	kind    int
	weights []uint64  // by place
	rows    api.Graph // the edges as they are gone from this end, with their places as weights
	ahead   func(v int) uint64
	reached map[int]arrival
	waiting *queue.Queue[visit]
}

// newSide is a search at its beginning. Of a vertex, ahead tells how far the other end is at least; Never: no way leads there.
func newSide(g api.Graph, kind int, rows api.Graph, end int, ahead func(v int) uint64) *side {
	s := &side{kind: kind, weights: g.Weight, rows: rows, ahead: ahead, reached: map[int]arrival{}}
	s.waiting = queue.New(func(a, b visit) bool { return a.rank < b.rank })
	s.reach(end, arrival{from: none, place: none})
	return s
}

// reach keeps how a vertex was reached, and lets it wait if a way may lead on.
func (s *side) reach(v int, a arrival) {
	s.reached[v] = a
	if left := s.ahead(v); left != api.Never {
		s.waiting.Push(visit{a.label + left, a.label, v})
	}
}

// spread carries the label of the vertex that is next along its edges, and tells each vertex whose label that lowers.
func (s *side) spread(lowered func(v int)) {
	at := s.waiting.Pop()
	if at.label > s.reached[at.vertex].label { // it was lowered since, and came with that
		return
	}
	for i := s.rows.Start[at.vertex]; i < s.rows.Start[at.vertex+1]; i++ {
		v, place := s.rows.To[i], int(s.rows.Weight[i])
		label, _ := route.Extend(s.kind, at.label, s.weights[place])
		if old, known := s.reached[v]; known && old.label <= label {
			continue
		}
		s.reach(v, arrival{label, at.vertex, place})
		lowered(v)
	}
}

// chain are the places of the edges by which a vertex was reached, from it back to this side's end.
func (s *side) chain(v int) []int {
	var places []int
	for a := s.reached[v]; a.place != none; a = s.reached[a.from] {
		places = append(places, a.place)
	}
	return places
}

// numbered is a graph with the places of its edges as their weights: they are known by them when they are turned round.
func numbered(g api.Graph) api.Graph {
	places := make([]uint64, len(g.To))
	for place := range places {
		places[place] = uint64(place)
	}
	return api.Graph{N: g.N, Start: g.Start, To: g.To, Weight: places}
}
