package strong

import (
	"slices"

	"wayfare/api"
	"wayfare/graph"
)

// together tells for each vertex of a graph a number that it shares with those that it belongs together with, and with no others.
//
// Of the vertices without a number, the one that was left last can be reached from no other one that it does not reach itself: a walk that comes to that one first leaves it later. So what is reached from it against the edges, and has no number, is its part.
func together(g api.Graph) []int {
	left := leaving(g)
	back, _ := graph.Turn(g)
	group := slices.Repeat([]int{none}, g.N)
	for _, first := range slices.Backward(left) {
		walk(back, first, func(v int) bool {
			if group[v] != none {
				return false
			}
			group[v] = first
			return true
		}, func(int) {})
	}
	return group
}

// leaving are all vertices, in the order in which walks from one behind the other leave them.
func leaving(g api.Graph) []int {
	met := make([]bool, g.N)
	left := make([]int, 0, g.N)
	for first := range g.N {
		walk(g, first, func(v int) bool {
			if met[v] {
				return false
			}
			met[v] = true
			return true
		}, func(v int) { left = append(left, v) })
	}
	return left
}

// stand is where a walk stands: at a vertex, with the edge that is to be looked at next.
type stand struct {
	vertex, place int
}

// walk goes from a vertex as far as it can, to each vertex to which enter lets it, and only then back; leave is told each vertex that it goes back from. It keeps its way in a list, since the way may be as long as there are vertices.
func walk(g api.Graph, first int, enter func(v int) bool, leave func(v int)) {
	var way []stand
	goTo := func(v int) {
		if enter(v) {
			way = append(way, stand{v, g.Start[v]})
		}
	}
	goTo(first)
	for len(way) > 0 {
		at := &way[len(way)-1]
		if at.place == g.Start[at.vertex+1] {
			leave(at.vertex)
			way = way[:len(way)-1]
			continue
		}
		to := g.To[at.place]
		at.place++
		goTo(to)
	}
}

// numbered gives groups of vertices the numbers from 0 on, by their least vertices, and tells how many groups there are.
func numbered(group []int) ([]int, int) {
	number := slices.Repeat([]int{none}, len(group)) // by group, which bears a vertex's number
	count := 0
	parts := make([]int, len(group))
	for v, first := range group {
		if number[first] == none {
			number[first] = count
			count++
		}
		parts[v] = number[first]
	}
	return parts, count
}
