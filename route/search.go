package route

import (
	"wayfare/api"
	"wayfare/queue"
	"wayfare/terms"
)

// Search tells the least labels, the most urgent vertex first.
func Search(g api.Graph, kind int, starts []api.Start) ([]uint64, api.Errno) {
	if e := terms.Search(g, kind, starts); e != api.OK {
		return nil, e
	}
	return search(g, kind, starts), api.OK
}

// reached is a vertex that waits with the label that it was given.
type reached struct {
	label  uint64
	vertex int
}

// search is Search of what was looked over already.
func search(g api.Graph, kind int, starts []api.Start) []uint64 {
	labels := terms.Started(g.N, starts)
	waiting := queue.New(func(a, b reached) bool { return a.label < b.label })
	wait := func(v int) { waiting.Push(reached{labels[v], v}) }
	for v, label := range labels {
		if label != api.Never {
			wait(v)
		}
	}
	for !waiting.Empty() {
		if at := waiting.Pop(); at.label == labels[at.vertex] { // else it was lowered since, and waits once more
			spread(g, kind, labels, at.vertex, wait)
		}
	}
	return labels
}

// visit is that a vertex's row is gone over in a round.
type visit struct {
	round, vertex int
}

// Rounds tells them by going over all edges again and again, and how many times it went.
//
// Only rows of vertices whose label was lowered since their row was gone over last can change anything: these alone are gone over, by round and by vertex, as if it were all.
func Rounds(g api.Graph, kind int, starts []api.Start) ([]uint64, int, api.Errno) {
	if e := terms.Search(g, kind, starts); e != api.OK {
		return nil, 0, e
	}
	labels := terms.Started(g.N, starts)
	waiting := queue.New(func(a, b visit) bool {
		return a.round < b.round || a.round == b.round && a.vertex < b.vertex
	})
	waits := make([]bool, g.N)
	wait := func(round, v int) {
		if !waits[v] { // once is enough: whoever lowers it, its row comes next in the same round
			waits[v] = true
			waiting.Push(visit{round, v})
		}
	}
	for v, label := range labels {
		if label != api.Never {
			wait(1, v)
		}
	}
	changed := 0 // the last round that changed a label
	for !waiting.Empty() {
		at := waiting.Pop()
		waits[at.vertex] = false
		spread(g, kind, labels, at.vertex, func(v int) {
			changed = at.round
			if v > at.vertex {
				wait(at.round, v)
			} else {
				wait(at.round+1, v)
			}
		})
	}
	return labels, changed + 1, api.OK
}

// spread carries the label of u along its edges, and tells each vertex whose label that lowers.
func spread(g api.Graph, kind int, labels []uint64, u int, lowered func(v int)) {
	for place := g.Start[u]; place < g.Start[u+1]; place++ {
		v := g.To[place]
		if label := extend(kind, labels[u], g.Weight[place]); label < labels[v] {
			labels[v] = label
			lowered(v)
		}
	}
}
