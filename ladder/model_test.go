package ladder_test

import (
	"math/rand/v2"
	"slices"
	"testing"

	"wayfare/api"
	"wayfare/graph"
	"wayfare/ladder"
	"wayfare/route"
)

const never uint64 = api.Never

// kinds are those of ladders.
var kinds = []int{api.KindSum, api.KindHops, api.KindMax}

func edge(from, to int, weight uint64) api.Edge {
	return api.Edge{From: from, To: to, Weight: weight}
}

// build makes a graph of edges that are right.
func build(n int, edges ...api.Edge) api.Graph {
	g, e, at := graph.Build(api.Roads{N: n, Edges: edges})
	if e != api.OK {
		panic(at)
	}
	return g
}

// example is the graph of the chapter.
func example() api.Graph {
	return build(4, edge(0, 1, 1), edge(0, 2, 9), edge(1, 2, 1), edge(1, 3, 1), edge(2, 3, 1), edge(3, 0, 2))
}

// plain is a rung that is an edge.
func plain(from, to int, weight uint64, place int) api.Rung {
	return api.Rung{From: from, To: to, Weight: weight, By: place, Via: -1, Low: -1, High: -1}
}

// over is a rung by way of a vertex.
func over(from, to int, weight uint64, via, low, high int) api.Rung {
	return api.Rung{From: from, To: to, Weight: weight, By: -1, Via: via, Low: low, High: high}
}

// someOf goes over graphs by chance: with loops, several edges between two vertices, edges of no weight, and some as heavy as may be.
func someOf(many int, seed uint64, tell func(dice *rand.Rand, g api.Graph)) {
	dice := rand.New(rand.NewPCG(23, seed))
	for range many {
		n := 1 + dice.IntN(12)
		most := 1 + dice.Uint64N(6)
		var edges []api.Edge
		for range dice.IntN(4 * n) {
			weight := dice.Uint64N(most)
			if dice.IntN(12) == 0 {
				weight = api.MaxWeight - weight
			}
			edges = append(edges, edge(dice.IntN(n), dice.IntN(n), weight))
		}
		tell(dice, build(n, edges...))
	}
}

// made is a ladder that Build does not refuse.
func made(t *testing.T, g api.Graph, kind int, order ...int) api.Ladder {
	t.Helper()
	l, e := ladder.Build(g, kind, order)
	if e != api.OK {
		t.Fatalf("V1: %v, kind %d, order %v: %d", g, kind, order, e)
	}
	return l
}

func source(g api.Graph, place int) int {
	v := 0
	for g.Start[v+1] <= place {
		v++
	}
	return v
}

// joined is what two weights come to.
func joined(kind int, a, b uint64) uint64 {
	if kind == api.KindMax {
		return max(a, b)
	}
	return a + b
}

// rungsByWords is the chapter's 'Taking out', sentence by sentence: of each pair all rungs are gone over.
func rungsByWords(g api.Graph, kind int, order []int) []api.Rung {
	var rungs []api.Rung
	for u := range g.N {
		for w := range g.N {
			best := -1
			for place, to := range g.To {
				if u != w && to == w && source(g, place) == u && (best < 0 || weightOf(g, kind, place) < weightOf(g, kind, best)) {
					best = place
				}
			}
			if best >= 0 {
				rungs = append(rungs, plain(u, w, weightOf(g, kind, best), best))
			}
		}
	}
	out := make([]bool, g.N)
	for _, v := range order {
		for u := range g.N {
			for w := range g.N {
				if out[u] || out[w] || u == v || w == v || u == w {
					continue
				}
				low, high, now := lastOf(rungs, u, v), lastOf(rungs, v, w), lastOf(rungs, u, w)
				if low < 0 || high < 0 {
					continue
				}
				weight := joined(kind, rungs[low].Weight, rungs[high].Weight)
				if now < 0 || rungs[now].Weight > weight {
					rungs = append(rungs, over(u, w, weight, v, low, high))
				}
			}
		}
		out[v] = true
	}
	return rungs
}

func weightOf(g api.Graph, kind, place int) uint64 {
	if kind == api.KindHops {
		return 1
	}
	return g.Weight[place]
}

// lastOf is the number of the last rung of a pair; -1, if there is none.
func lastOf(rungs []api.Rung, from, to int) int {
	last := -1
	for i, r := range rungs {
		if r.From == from && r.To == to {
			last = i
		}
	}
	return last
}

// easyByWords is V2, over a table of edges.
func easyByWords(g api.Graph) []int {
	has := make([][]bool, g.N)
	for u := range has {
		has[u] = make([]bool, g.N)
	}
	for place, to := range g.To {
		from := source(g, place)
		has[from][to] = from != to
	}
	var order []int
	for range g.N {
		best, least := -1, 0
		for v := range g.N {
			ins, outs := around(has, order, v)
			if n := len(ins) * len(outs); !slices.Contains(order, v) && (best < 0 || n < least) {
				best, least = v, n
			}
		}
		ins, outs := around(has, order, best)
		for _, u := range ins {
			for _, w := range outs {
				has[u][w] = u != w
			}
		}
		order = append(order, best)
	}
	return order
}

// around are the vertices not yet taken with an edge to v, and those with one from it.
func around(has [][]bool, taken []int, v int) (ins, outs []int) {
	for u := range has {
		if has[u][v] && !slices.Contains(taken, u) {
			ins = append(ins, u)
		}
		if has[v][u] && !slices.Contains(taken, u) {
			outs = append(outs, u)
		}
	}
	return ins, outs
}

// climbByWords goes every way over a ladder, and tells the least label; Never, if there is none.
func climbByWords(l api.Ladder, from, to int) uint64 {
	least := never
	var down func(v int, label uint64)
	down = func(v int, label uint64) {
		if v == to {
			least = min(least, label)
		}
		for i, r := range l.Rungs {
			if r.From == v && l.Rank[r.To] < l.Rank[v] && lastOf(l.Rungs, r.From, r.To) == i {
				down(r.To, joined(l.Kind, label, r.Weight))
			}
		}
	}
	var up func(v int, label uint64)
	up = func(v int, label uint64) {
		down(v, label)
		for i, r := range l.Rungs {
			if r.From == v && l.Rank[r.To] > l.Rank[v] && lastOf(l.Rungs, r.From, r.To) == i {
				up(r.To, joined(l.Kind, label, r.Weight))
			}
		}
	}
	up(from, 0)
	return least
}

// goodClimb looks that rungs are a way over a ladder that has this label.
func goodClimb(t *testing.T, l api.Ladder, from, to int, label uint64, rungs []int) {
	t.Helper()
	at, x, falls := from, uint64(0), false
	for _, i := range rungs {
		if i < 0 || i >= len(l.Rungs) {
			t.Fatalf("V5: %v, from %d to %d: %v is none", l, from, to, rungs)
		}
		r := l.Rungs[i]
		falling := l.Rank[r.To] < l.Rank[r.From]
		if r.From != at || lastOf(l.Rungs, r.From, r.To) != i || falls && !falling {
			t.Fatalf("V5: %v, from %d to %d: %v is no way over the ladder", l, from, to, rungs)
		}
		at, x, falls = r.To, joined(l.Kind, x, r.Weight), falling
	}
	if at != to || x != label {
		t.Fatalf("V5: %v, from %d to %d: %v leads to %d with %d, want %d", l, from, to, rungs, at, x, label)
	}
}

// unfoldByWords is V6.
func unfoldByWords(l api.Ladder, rungs ...int) []int {
	var places []int
	for _, i := range rungs {
		if r := l.Rungs[i]; r.By >= 0 {
			places = append(places, r.By)
		} else {
			places = append(places, unfoldByWords(l, r.Low, r.High)...)
		}
	}
	return places
}

// labelsFrom are those of route's search from one vertex.
func labelsFrom(g api.Graph, kind, from int) []uint64 {
	labels, e := route.Search(g, kind, []api.Start{{Vertex: from}})
	if e != api.OK {
		panic(e)
	}
	return labels
}
