package token_test

import (
	"reflect"
	"runtime"
	"slices"
	"testing"

	"wayfare/api"
	"wayfare/arena"
	"wayfare/token"
)

// roomy is a list with spare room, filled with one thing.
func roomy[T any](fill T, list ...T) []T {
	return append(slices.Clone(list), fill, fill, fill)[:len(list)]
}

func roomyCircuit() api.Circuit {
	return api.Circuit{Sends: roomy([]int{77}, roomy(77, 1, 0, 1), roomy(77, 0)), Awake: roomy(77, 0, 0), Burst: 1}
}

// laidOpen is a circuit with all spare room.
func laidOpen(c api.Circuit) api.Circuit {
	out := api.Circuit{Awake: slices.Clone(c.Awake[:cap(c.Awake)]), Burst: c.Burst}
	for _, row := range c.Sends[:cap(c.Sends)] {
		out.Sends = append(out.Sends, slices.Clone(row[:cap(row)]))
	}
	return out
}

// played are the accesses of nodes in turns.
func played(t *testing.T, c api.Circuit, nodes ...*token.Node) []api.Access {
	t.Helper()
	cells, _ := token.Cells(c)
	a, _ := arena.New(len(cells), true)
	for i, v := range cells {
		a.Poke(i, v)
	}
	for i := 0; i < 10000; i++ {
		p, _ := a.Port(i % len(nodes))
		p.Grant()
		nodes[i%len(nodes)].Step(p)
	}
	return a.Log()
}

func nodesOf(t *testing.T, c api.Circuit) []*token.Node {
	t.Helper()
	var out []*token.Node
	for who := range c.Sends {
		n, e := token.New(c, who)
		if e != api.OK {
			t.Fatalf("T4: %d", e)
		}
		out = append(out, n)
	}
	return out
}

func TestNothingIsSharedOrChanged(t *testing.T) {
	c := roomyCircuit()
	nodes := nodesOf(t, c)
	cells, _ := token.Cells(c)
	again, _ := token.Cells(c)
	token.Check(c)
	token.New(c, 9)
	token.Cells(api.Circuit{Sends: c.Sends, Awake: c.Awake, Burst: -1})
	if !reflect.DeepEqual(laidOpen(c), laidOpen(roomyCircuit())) {
		t.Errorf("T1: the circuit was changed: %v", laidOpen(c))
	}
	for i := range cells[:cap(cells)] {
		cells[:cap(cells)][i] = 88
	}
	if !slices.Equal(again, []uint64{0, 0, 0, 1, 0, 0}) {
		t.Errorf("T1: two answers share memory: %v", again)
	}
	for _, row := range c.Sends[:cap(c.Sends)] {
		for i := range row[:cap(row)] {
			row[:cap(row)][i] = 99
		}
	}
	for i := range c.Awake[:cap(c.Awake)] {
		c.Awake[:cap(c.Awake)][i] = 99
	}
	was := roomyCircuit()
	if !slices.Equal(played(t, was, nodes...), played(t, was, nodesOf(t, was)...)) {
		t.Error("T1: a node has kept what it was handed")
	}
}

// TestTwoNodesKnowNothing: P0.5: of one another but through an arena.
func TestTwoNodesKnowNothing(t *testing.T) {
	c := roomyCircuit()
	one, two := nodesOf(t, c), nodesOf(t, c)
	first := played(t, c, one...)
	if !slices.Equal(first, played(t, c, two...)) {
		t.Error("P0.5: nodes of one circuit know of those that were played ahead")
	}
}

func TestNilAndEmptyAreAlike(t *testing.T) {
	a := api.Circuit{Sends: [][]int{nil, {0}}}
	b := api.Circuit{Sends: [][]int{{}, {0}}, Awake: []int{}}
	if !slices.Equal(played(t, a, nodesOf(t, a)...), played(t, b, nodesOf(t, b)...)) {
		t.Error("P0.3: rows without numbers, nobody awake")
	}
}

func TestNoLongLists(t *testing.T) {
	many := api.Circuit{Sends: make([][]int, 1<<16)}
	great := api.Circuit{Sends: [][]int{{0}}, Awake: []int{0}, Burst: 1<<63 - 1}
	var ahead, behind runtime.MemStats
	runtime.ReadMemStats(&ahead)
	token.Check(many)
	token.Cells(many)
	token.New(many, 0)
	n, _ := token.New(great, 0)
	for range 100 {
		n.Step(nil)
	}
	runtime.ReadMemStats(&behind)
	if n := behind.TotalAlloc - ahead.TotalAlloc; n > 1<<16 {
		t.Errorf("P0.9: %d bytes were made", n)
	}
}
