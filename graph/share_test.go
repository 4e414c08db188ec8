package graph_test

import (
	"slices"
	"sync"
	"testing"

	"wayfare/api"
	"wayfare/graph"
)

// roomy is a list with spare room, all of it known.
func roomy[T any](l []T, spare T) []T {
	out := slices.Clone(l)
	for range 3 {
		out = append(out, spare)
	}
	return out[:len(l)]
}

func roomyGraph(g api.Graph) api.Graph {
	return api.Graph{N: g.N, Start: roomy(g.Start, 77), To: roomy(g.To, 77), Weight: roomy(g.Weight, 77)}
}

func whole[T any](l []T) []T {
	return l[:cap(l)]
}

// soil spoils a list and its spare room.
func soil[T any](l []T, with T) {
	for i := range whole(l) {
		whole(l)[i] = with
	}
}

func soilGraph(g api.Graph) {
	soil(g.Start, 99)
	soil(g.To, 99)
	soil(g.Weight, 99)
}

// untouched tells whether a roomy graph is as it was, spare room included.
func untouched(g, was api.Graph) bool {
	ints := func(l, was []int) bool {
		return slices.Equal(l[:len(was)+3], append(slices.Clone(was), 77, 77, 77))
	}
	return ints(g.Start, was.Start) && ints(g.To, was.To) && slices.Equal(g.Weight[:len(was.Weight)+3], append(slices.Clone(was.Weight), 77, 77, 77))
}

// apart looks that the lists of an answer share nothing: each is spoilt with its spare room, and the others stay.
func apart(t *testing.T, call string, g api.Graph) {
	t.Helper()
	start, to, weight := slices.Clone(g.Start), slices.Clone(g.To), slices.Clone(g.Weight)
	soil(g.Start, 55)
	if !slices.Equal(g.To, to) || !slices.Equal(g.Weight, weight) {
		t.Errorf("P0.4: %s: Start shares memory", call)
	}
	copy(g.Start, start)
	soil(g.To, 55)
	if !slices.Equal(g.Start, start) {
		t.Errorf("P0.4: %s: To shares memory", call)
	}
}

func TestNothingIsShared(t *testing.T) {
	calls := map[string]func(g api.Graph, order []int) (api.Graph, api.Errno){
		"Turn":    func(g api.Graph, order []int) (api.Graph, api.Errno) { return graph.Turn(g) },
		"Sort":    func(g api.Graph, order []int) (api.Graph, api.Errno) { return graph.Sort(g) },
		"Merge":   func(g api.Graph, order []int) (api.Graph, api.Errno) { return graph.Merge(g) },
		"Relabel": graph.Relabel,
	}
	for name, call := range calls {
		for _, was := range []api.Graph{example(), twins(), none(), {N: 3, Start: []int{0, 0, 0, 0}}} {
			plain := []int{2, 0, 1}[:was.N]
			g, order := roomyGraph(was), roomy(plain, 77)
			got, e := call(g, order)
			want, _ := call(was, plain)
			if e != api.OK || !untouched(g, was) || !slices.Equal(order[:was.N+3], append(slices.Clone(plain), 77, 77, 77)) {
				t.Errorf("P0.4: %s has changed %v or %v, %d", name, was, plain, e)
			}
			soilGraph(g)
			soil(order, 99)
			if !same(got, want) {
				t.Errorf("P0.4: %s of %v keeps what it was given: %v", name, was, got)
			}
			apart(t, name, got)
			soilGraph(got)
			if again, _ := call(was, plain); !same(again, want) {
				t.Errorf("P0.5: %s of %v answers otherwise the second time", name, was)
			}
		}
	}
}

func TestListsAreNotShared(t *testing.T) {
	was := example()
	g, from := roomyGraph(was), roomy([]int{2}, 77)
	r, _ := graph.Edges(g)
	degree, _ := graph.ByDegree(g)
	parts, _ := graph.Parts(g, 2)
	reached, _ := graph.Reach(g, from)
	if !untouched(g, was) || !slices.Equal(from[:4], []int{2, 77, 77, 77}) {
		t.Errorf("P0.4: the graph or the list has changed: %v, %v", g, from[:4])
	}
	for range 2 {
		soil(r.Edges, api.Edge{From: 9, To: 9, Weight: 9})
		soil(degree, 99)
		soil(parts, 99)
		soil(reached, false)
		if !untouched(g, was) {
			t.Fatalf("P0.4: an answer shares memory with the graph")
		}
		r, _ = graph.Edges(g)
		degree, _ = graph.ByDegree(g)
		parts, _ = graph.Parts(g, 2)
		reached, _ = graph.Reach(g, from)
	}
	soilGraph(g)
	soil(from, 99)
	if r.Edges[3] != (api.Edge{From: 2, To: 2}) || !slices.Equal(degree, []int{0, 2, 1}) || !slices.Equal(parts, []int{0, 1, 3}) || !slices.Equal(reached, []bool{true, true, true}) {
		t.Errorf("P0.4: an answer has changed with the graph: %v, %v, %v, %v", r, degree, parts, reached)
	}
}

func TestBuildShares(t *testing.T) {
	list := of([]arc{{2, 0, 1}, {0, 2, 5}, {2, 2, 0}, {0, 1, 7}})
	spare := api.Edge{From: 77, To: 77, Weight: 77}
	l := roomy(list, spare)
	g, e, _ := graph.Build(api.Roads{N: 3, Edges: l})
	if e != api.OK || !slices.Equal(l[:7], append(slices.Clone(list), spare, spare, spare)) {
		t.Errorf("P0.4: Build has changed the edges: %v", l[:7])
	}
	soil(l, api.Edge{From: 9, To: 9, Weight: 9})
	if !same(g, example()) {
		t.Errorf("P0.4: the graph has changed with the edges: %v", g)
	}
	apart(t, "Build", g)
}

func TestRefusedChangesNothing(t *testing.T) {
	was := api.Graph{N: 3, Start: []int{0, 2, 1, 4}, To: []int{2, 1, 0, 2}, Weight: []uint64{5, 7, 1, 0}}
	g, list := roomyGraph(was), roomy([]int{1, 1, 5}, 77)
	edges := of([]arc{{0, 0, 0}, {0, 1, 0}})
	graph.Check(g)
	graph.Edges(g)
	graph.Turn(g)
	graph.Sort(g)
	graph.Merge(g)
	graph.ByDegree(g)
	graph.Relabel(g, list)
	graph.Parts(g, 2)
	graph.Reach(g, list)
	graph.Relabel(example(), list)
	graph.Reach(example(), list)
	graph.Build(api.Roads{N: 1, Edges: edges})
	for range graph.Row(g, 0) {
	}
	if !untouched(g, was) || !slices.Equal(list[:6], []int{1, 1, 5, 77, 77, 77}) || !slices.Equal(edges, of([]arc{{0, 0, 0}, {0, 1, 0}})) {
		t.Errorf("P0.4: a refused call has changed what it was given: %v, %v, %v", g, list[:6], edges)
	}
}

func TestFromManyAtOnce(t *testing.T) {
	g := example()
	row := graph.Row(g, 0)
	var all sync.WaitGroup
	for range 8 {
		all.Go(func() {
			sum := 0
			for to := range row {
				sum += to
			}
			if x, e := graph.Turn(g); e != api.OK || x.N != 3 || sum != 3 {
				t.Errorf("P0.5: one call knows of another: %v, %d, %d", x, e, sum)
			}
		})
	}
	all.Wait()
}
