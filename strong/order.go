package strong

import (
	"slices"

	"wayfare/api"
	"wayfare/queue"
)

// forwards are the vertices in the order in which they come; those on a circle, or behind one, do not.
func forwards(g api.Graph) []int {
	ahead := make([]int, g.N) // by vertex: how many edges go to it from vertices that have not come
	for _, v := range g.To {
		ahead[v]++
	}
	ready := queue.New(func(a, b int) bool { return a < b })
	for v, n := range ahead {
		if n == 0 {
			ready.Push(v)
		}
	}
	come := make([]int, 0, g.N)
	for !ready.Empty() {
		u := ready.Pop()
		come = append(come, u)
		for _, v := range g.To[g.Start[u]:g.Start[u+1]] {
			if ahead[v]--; ahead[v] == 0 {
				ready.Push(v)
			}
		}
	}
	return come
}

// circleBehind are the places of the edges of a circle, where not all vertices have come: an edge goes to each of the others from one of them, so who goes back along such edges comes round.
func circleBehind(g api.Graph, come []int) []int {
	to := entries(g, come)
	v := slices.IndexFunc(to, func(e entry) bool { return e.place != none })
	met := make([]bool, g.N)
	for !met[v] {
		met[v] = true
		v = to[v].from
	}
	circle := []int{to[v].place}
	for u := to[v].from; u != v; u = to[u].from {
		circle = append(circle, to[u].place)
	}
	slices.Reverse(circle)
	return circle
}

// entry is an edge to a vertex.
type entry struct {
	from, place int
}

// entries tells for each vertex that has not come an edge from one that has not come; for all others none.
func entries(g api.Graph, come []int) []entry {
	has := make([]bool, g.N)
	for _, v := range come {
		has[v] = true
	}
	to := slices.Repeat([]entry{{none, none}}, g.N)
	for u := range g.N {
		for place := g.Start[u]; place < g.Start[u+1] && !has[u]; place++ {
			to[g.To[place]] = entry{u, place} // what a vertex that has not come goes to has not come either
		}
	}
	return to
}
