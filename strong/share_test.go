package strong_test

import (
	"reflect"
	"runtime"
	"slices"
	"testing"

	"wayfare/api"
	"wayfare/strong"
)

// roomy is a list with spare room, filled with one thing.
func roomy[T any](list []T, fill T) []T {
	return append(slices.Clone(list), fill, fill, fill)[:len(list)]
}

func roomyGraph(g api.Graph) api.Graph {
	return api.Graph{N: g.N, Start: roomy(g.Start, 77), To: roomy(g.To, 77), Weight: roomy(g.Weight, 77)}
}

// laidOpen is a graph's lists with their spare room.
func laidOpen(g api.Graph) api.Graph {
	return api.Graph{N: g.N, Start: slices.Clone(g.Start[:cap(g.Start)]), To: slices.Clone(g.To[:cap(g.To)]), Weight: slices.Clone(g.Weight[:cap(g.Weight)])}
}

// spoil writes over a list and its spare room.
func spoil[T any](l []T, with T) {
	l = l[:cap(l)]
	for i := range l {
		l[i] = with
	}
}

func spoilGraph(g api.Graph) {
	spoil(g.Start, 99)
	spoil(g.To, 99)
	spoil(g.Weight, 99)
}

// answers are those of all calls.
type answers struct {
	Parts    []int
	Graph    api.Graph
	Same     []int
	Circle   []int
	Order    []int
	Longest  []int
	Is       bool
	Refusals [5]api.Errno
}

func ask(g api.Graph) answers {
	var a answers
	a.Parts, a.Refusals[0] = strong.Parts(g)
	a.Graph, a.Same, a.Refusals[1] = strong.Condense(g)
	a.Circle, a.Is, a.Refusals[2] = strong.Circle(g)
	a.Order, a.Refusals[3] = strong.Order(g)
	a.Longest, a.Refusals[4] = strong.Longest(g)
	return a
}

func spoilAnswers(a answers) {
	spoil(a.Parts, 88)
	spoilGraph(a.Graph)
	spoil(a.Circle, 88)
	spoil(a.Order, 88)
	spoil(a.Longest, 88)
}

// TestNothingIsSharedOrChanged: with graphs that are answered, and with some that are refused.
func TestNothingIsSharedOrChanged(t *testing.T) {
	for _, was := range []api.Graph{example(), build(4, edge(3, 1, 2), edge(1, 0, 5), edge(3, 0, 1)), build(2), {N: 1, Start: []int{0, 1}, To: []int{1}, Weight: []uint64{0}}} {
		g := roomyGraph(was)
		open := laidOpen(g)
		first, second, third := ask(g), ask(g), ask(g)
		if !reflect.DeepEqual(laidOpen(g), open) {
			t.Errorf("P0.4: the graph was changed: %v", laidOpen(g))
		}
		spoilAnswers(first)
		if !reflect.DeepEqual(laidOpen(g), open) {
			t.Errorf("P0.4: an answer shares memory with the graph: %v", laidOpen(g))
		}
		if !slices.Equal(first.Same, second.Same) {
			t.Errorf("P0.4: two lists of Condense's answer share memory: %v", first.Same)
		}
		spoil(first.Same, 88)
		spoilGraph(g)
		if !reflect.DeepEqual(second, third) || !reflect.DeepEqual(second, ask(was)) {
			t.Errorf("P0.4, P0.5: answers have changed with the graph or with one another: %v, %v", second, third)
		}
	}
}

// TestListsOfOneGraphAreApart: of Condense's graph, each list is spoilt with its spare room, and the others stay.
func TestListsOfOneGraphAreApart(t *testing.T) {
	for i := range 3 {
		c, parts, _ := strong.Condense(example())
		want, _, _ := strong.Condense(example())
		switch i {
		case 0:
			spoil(c.Start, 55)
			c.Start = want.Start
		case 1:
			spoil(c.To, 55)
			c.To = want.To
		case 2:
			spoil(c.Weight, 55)
			c.Weight = want.Weight
		}
		if !same(c, want) || !slices.Equal(parts, []int{0, 1, 1, 2, 3}) {
			t.Errorf("P0.4: lists of Condense share memory: %v, %v", c, parts)
		}
	}
}

func TestNilAndEmptyAreAlike(t *testing.T) {
	for n := range 2 {
		one := api.Graph{N: n, Start: make([]int, n+1)}
		two := api.Graph{N: n, Start: make([]int, n+1), To: []int{}, Weight: []uint64{}}
		if !reflect.DeepEqual(ask(one), ask(two)) {
			t.Errorf("P0.3: %v, %v", ask(one), ask(two))
		}
	}
}

func TestRefusedCallsMakeNoLists(t *testing.T) {
	var ahead, behind runtime.MemStats
	runtime.ReadMemStats(&ahead)
	for _, n := range []int{api.MaxVertices, 1 << 40, -1 << 40} {
		ask(api.Graph{N: n})
	}
	runtime.ReadMemStats(&behind)
	if n := behind.TotalAlloc - ahead.TotalAlloc; n > 1<<16 {
		t.Errorf("P0.9: graphs that are none take %d bytes", n)
	}
}
