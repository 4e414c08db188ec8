package strong

import (
	"slices"

	"wayfare/api"
)

// pair is from which part to which.
type pair [2]int

// lightest tells of each two unlike parts with edges from one to the other the least weight of these.
func lightest(g api.Graph, parts []int) map[pair]uint64 {
	least := map[pair]uint64{}
	for v := range g.N {
		for place := g.Start[v]; place < g.Start[v+1]; place++ {
			p := pair{parts[v], parts[g.To[place]]}
			if p[0] == p[1] {
				continue
			}
			if weight, known := least[p]; !known || g.Weight[place] < weight {
				least[p] = g.Weight[place]
			}
		}
	}
	return least
}

// inOrder are the edges of a map of weights, sorted by where they come from, then by where they go to.
func inOrder(weights map[pair]uint64) []api.Edge {
	edges := make([]api.Edge, 0, len(weights))
	for _, p := range sortedKeys(weights, func(a, b pair) int { return slices.Compare(a[:], b[:]) }) {
		edges = append(edges, api.Edge{From: p[0], To: p[1], Weight: weights[p]})
	}
	return edges
}

// sortedKeys are the keys of a map: it is gone over in an order that nobody may see.
func sortedKeys[K comparable, V any](m map[K]V, compare func(a, b K) int) []K {
	keys := make([]K, 0, len(m))
	for k := range m {
		keys = append(keys, k)
	}
	slices.SortFunc(keys, compare)
	return keys
}
