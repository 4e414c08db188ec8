package seek_test

import (
	"math/rand/v2"
	"slices"
	"testing"

	"wayfare/api"
	"wayfare/graph"
	"wayfare/route"
	"wayfare/seek"
)

const never uint64 = api.Never

// kinds are those of which ways are sought.
var kinds = []int{api.KindSum, api.KindHops, api.KindMax}

func edge(from, to int, weight uint64) api.Edge {
	return api.Edge{From: from, To: to, Weight: weight}
}

// build makes a graph of edges that are right.
func build(n int, edges ...api.Edge) api.Graph {
	g, e, at := graph.Build(api.Roads{N: n, Edges: edges})
	if e != api.OK {
		panic(at)
	}
	return g
}

// small is the graph of the chapter's examples.
func small() api.Graph {
	return build(4, edge(0, 1, 5), edge(0, 2, 1), edge(1, 2, 0), edge(2, 1, 2))
}

// someOf goes over graphs by chance, whose weights often make sums alike, are often 0, and at times as great as may be.
func someOf(many int, seed uint64, tell func(dice *rand.Rand, g api.Graph)) {
	dice := rand.New(rand.NewPCG(22, seed))
	for range many {
		n := 1 + dice.IntN(16)
		most := 1 + dice.Uint64N(5)
		var edges []api.Edge
		for range dice.IntN(4 * n) {
			weight := dice.Uint64N(most)
			if dice.IntN(12) == 0 {
				weight = api.MaxWeight - weight
			}
			edges = append(edges, edge(dice.IntN(n), dice.IntN(n), weight))
		}
		tell(dice, build(n, edges...))
	}
}

// labelsFrom are those of route's search from one vertex.
func labelsFrom(g api.Graph, kind, from int) []uint64 {
	labels, e := route.Search(g, kind, []api.Start{{Vertex: from}})
	if e != api.OK {
		panic(e)
	}
	return labels
}

// distances are those between all vertices.
func distances(g api.Graph) [][]uint64 {
	out := make([][]uint64, g.N)
	for v := range out {
		out[v] = labelsFrom(g, api.KindSum, v)
	}
	return out
}

// marksByWords are the marks of S3, of distances between all vertices.
func marksByWords(far [][]uint64, at []int) api.Marks {
	m := api.Marks{At: slices.Clone(at)}
	for _, v := range at {
		to := make([]uint64, len(far))
		for u := range far {
			to[u] = far[u][v]
		}
		m.From, m.To = append(m.From, slices.Clone(far[v])), append(m.To, to)
	}
	return m
}

// boundByWords is the bound of S5.
func boundByWords(m api.Marks, from, to int) uint64 {
	for i := range m.At {
		if m.From[i][from] != never && m.From[i][to] == never || m.To[i][to] != never && m.To[i][from] == never {
			return never
		}
	}
	most := uint64(0)
	for i := range m.At {
		if a, b := m.From[i][to], m.From[i][from]; a != never && b != never && a > b {
			most = max(most, a-b)
		}
		if a, b := m.To[i][from], m.To[i][to]; a != never && b != never && a > b {
			most = max(most, a-b)
		}
	}
	return most
}

// farByWords are the landmarks of S7.
func farByWords(far [][]uint64, first, count int) []int {
	at := []int{first}
	for len(at) < count && len(at) < len(far) {
		next, most := -1, uint64(0)
		for v := range far {
			label := never
			for _, u := range at {
				label = min(label, far[u][v])
			}
			if label > most {
				next, most = v, label
			}
		}
		if most == 0 {
			break
		}
		at = append(at, next)
	}
	return at
}

// goodWay looks that a way leads from one vertex to another, has this label, and no vertex twice.
func goodWay(t *testing.T, call string, g api.Graph, kind, from, to int, w api.Way, label uint64) {
	t.Helper()
	if w.Label != label {
		t.Fatalf("S8: %s: %v, kind %d, from %d to %d: %d, want %d", call, g, kind, from, to, w.Label, label)
	}
	if x, e := route.Length(g, kind, 0, w.Edges); x != label || e != api.OK {
		t.Fatalf("S2: %s: %v, kind %d, from %d to %d: along %v it is %d, %d, want %d", call, g, kind, from, to, w.Edges, x, e, label)
	}
	at, met := from, []int{from}
	for _, place := range w.Edges {
		if place < g.Start[at] || place >= g.Start[at+1] {
			t.Fatalf("S2: %s: %v, kind %d, from %d to %d: %v goes not on from %d", call, g, kind, from, to, w.Edges, at)
		}
		at = g.To[place]
		if slices.Contains(met, at) {
			t.Fatalf("S2: %s: %v, kind %d, from %d to %d: %v has %d twice", call, g, kind, from, to, w.Edges, at)
		}
		met = append(met, at)
	}
	if at != to {
		t.Fatalf("S2: %s: %v, kind %d, from %d to %d: %v leads to %d", call, g, kind, from, to, w.Edges, at)
	}
}

// goodAnswer holds what a search has answered against route's label.
func goodAnswer(t *testing.T, call string, g api.Graph, kind, from, to int, w api.Way, e api.Errno, label uint64) {
	t.Helper()
	if label == never {
		if e != api.ErrReach || w.Label != 0 || w.Edges != nil {
			t.Fatalf("S2, S8: %s: %v, kind %d, from %d to %d: %v, %d", call, g, kind, from, to, w, e)
		}
		return
	}
	if e != api.OK {
		t.Fatalf("S8: %s: %v, kind %d, from %d to %d: %d", call, g, kind, from, to, e)
	}
	goodWay(t, call, g, kind, from, to, w, label)
}

func mark(t *testing.T, g api.Graph, at ...int) api.Marks {
	t.Helper()
	m, e := seek.Mark(g, at)
	if e != api.OK {
		t.Fatalf("S3: %v: %d", at, e)
	}
	return m
}
