package strong_test

import (
	"math"
	"slices"
	"testing"

	"wayfare/api"
	"wayfare/graph"
	"wayfare/strong"
)

func TestExamples(t *testing.T) {
	g := example()
	if l, e := strong.Parts(g); !slices.Equal(l, []int{0, 1, 1, 2, 3}) || e != api.OK {
		t.Errorf("S1: %v, %d", l, e)
	}
	c, l, e := strong.Condense(g)
	if !same(c, api.Graph{N: 4, Start: []int{0, 1, 2, 2, 2}, To: []int{1, 3}, Weight: []uint64{3, 2}}) || !slices.Equal(l, []int{0, 1, 1, 2, 3}) || e != api.OK {
		t.Errorf("S2: %v, %v, %d", c, l, e)
	}
	wantCircle(t, g)
	wantCircle(t, c)
	for _, x := range []struct {
		name           string
		g              api.Graph
		order, longest []int
		e              api.Errno
	}{
		{"the example", g, nil, nil, api.ErrOrder},
		{"its parts", c, []int{0, 1, 2, 3}, []int{0, 1, 0, 2}, api.OK},
		{"2 to 0", build(3, edge(2, 0, 0)), []int{1, 2, 0}, []int{1, 0, 0}, api.OK},
		{"no vertices", build(0), nil, nil, api.OK},
		{"no edges", build(3), []int{0, 1, 2}, []int{0, 0, 0}, api.OK},
		{"one vertex", build(1), []int{0}, []int{0}, api.OK},
		{"a loop", build(1, edge(0, 0, 5)), nil, nil, api.ErrOrder},
		{"a loop behind all others", build(3, edge(0, 1, 1), edge(1, 2, 1), edge(2, 2, 1)), nil, nil, api.ErrOrder},
		{"a circle of two", build(2, edge(0, 1, 0), edge(1, 0, 0)), nil, nil, api.ErrOrder},
		{"several edges alike", build(2, edge(1, 0, 3), edge(1, 0, 3), edge(1, 0, 1)), []int{1, 0}, []int{1, 0}, api.OK},
		{"backwards", build(4, edge(3, 2, 0), edge(2, 1, 0), edge(1, 0, 0)), []int{3, 2, 1, 0}, []int{3, 2, 1, 0}, api.OK},
		{"the least one that is ready comes next", build(5, edge(4, 0, 0), edge(3, 1, 0), edge(1, 2, 0)), []int{3, 1, 2, 4, 0}, []int{1, 1, 2, 0, 0}, api.OK},
		{"the longer way counts", build(4, edge(0, 3, 9), edge(0, 1, 0), edge(1, 2, 0), edge(2, 3, 0)), []int{0, 1, 2, 3}, []int{0, 1, 2, 3}, api.OK},
	} {
		if l, e := strong.Order(x.g); !slices.Equal(l, x.order) || e != x.e || e != api.OK && l != nil {
			t.Errorf("S4: %s: %v, %d, want %v, %d", x.name, l, e, x.order, x.e)
		}
		if l, e := strong.Longest(x.g); !slices.Equal(l, x.longest) || e != x.e || e != api.OK && l != nil {
			t.Errorf("S5: %s: %v, %d, want %v, %d", x.name, l, e, x.longest, x.e)
		}
	}
}

func TestPartsAndCondense(t *testing.T) {
	for _, x := range []struct {
		name  string
		g     api.Graph
		parts []int
		c     api.Graph
	}{
		{"no vertices", build(0), nil, api.Graph{Start: []int{0}}},
		{"no edges", build(3), []int{0, 1, 2}, api.Graph{N: 3, Start: []int{0, 0, 0, 0}}},
		{"a loop", build(1, edge(0, 0, 5)), []int{0}, api.Graph{N: 1, Start: []int{0, 0}}},
		{"several edges, the lightest counts", build(2, edge(0, 1, 7), edge(0, 1, 3), edge(0, 1, 9)), []int{0, 1}, api.Graph{N: 2, Start: []int{0, 1, 1}, To: []int{1}, Weight: []uint64{3}}},
		{"numbered by the least vertices", build(6, edge(5, 0, 0), edge(0, 5, 0), edge(4, 1, 0), edge(1, 4, 0), edge(5, 3, api.MaxWeight)), []int{0, 1, 2, 3, 1, 0}, api.Graph{N: 4, Start: []int{0, 1, 1, 1, 1}, To: []int{3}, Weight: []uint64{api.MaxWeight}}},
		{"rows by where edges go to", build(4, edge(3, 2, 5), edge(3, 0, 6), edge(3, 1, 7), edge(3, 0, 4)), []int{0, 1, 2, 3}, api.Graph{N: 4, Start: []int{0, 0, 0, 0, 3}, To: []int{0, 1, 2}, Weight: []uint64{4, 7, 5}}},
		{"two circles that meet", build(6, edge(5, 3, 0), edge(3, 1, 7), edge(1, 5, 0), edge(3, 2, 0), edge(2, 4, 0), edge(4, 3, 0), edge(4, 0, 9), edge(1, 0, 8)), []int{0, 1, 1, 1, 1, 1}, api.Graph{N: 2, Start: []int{0, 0, 1}, To: []int{0}, Weight: []uint64{8}}},
	} {
		if l, e := strong.Parts(x.g); !slices.Equal(l, x.parts) || e != api.OK {
			t.Errorf("S1: %s: %v, %d, want %v", x.name, l, e, x.parts)
		}
		if c, l, e := strong.Condense(x.g); !same(c, x.c) || !slices.Equal(l, x.parts) || e != api.OK {
			t.Errorf("S2: %s: %v, %v, %d, want %v", x.name, c, l, e, x.c)
		}
	}
}

// wantCircle looks that Circle tells a circle just where there is one.
func wantCircle(t *testing.T, g api.Graph) {
	t.Helper()
	l, is, e := strong.Circle(g)
	if e != api.OK || is != hasCircle(g) || is != (len(l) > 0) {
		t.Fatalf("S3: %v: %v, %v, %d", g, l, is, e)
	}
	from := map[int]bool{}
	for i, place := range l {
		if place < 0 || place >= len(g.To) {
			t.Fatalf("S3: %v: %v has no place", g, l)
		}
		v := source(g, place)
		if ahead := l[(i+len(l)-1)%len(l)]; g.To[ahead] != v || from[v] {
			t.Fatalf("S3: %v: %v is no circle", g, l)
		}
		from[v] = true
	}
}

// holds looks that all calls answer as the words say, and that the promises hold.
func holds(t *testing.T, g api.Graph) {
	t.Helper()
	parts, e := strong.Parts(g)
	if want := partsByWords(g); !slices.Equal(parts, want) || e != api.OK {
		t.Fatalf("S1, S7: %v: %v, %d, want %v", g, parts, e, want)
	}
	c, again, e := strong.Condense(g)
	if want := condenseByWords(g); !same(c, want) || !slices.Equal(again, parts) || e != api.OK {
		t.Fatalf("S2: %v: %v, %v, %d, want %v", g, c, again, e, want)
	}
	condensedRight(t, g, parts, c)
	wantCircle(t, g)
	back, _ := graph.Turn(g)
	if l, e := strong.Parts(back); !slices.Equal(l, parts) || e != api.OK {
		t.Fatalf("S10: %v: turned: %v, %d, want %v", g, l, e, parts)
	}
	ordered(t, g, parts)
}

// condensedRight looks at S7 of a graph with its parts.
func condensedRight(t *testing.T, g api.Graph, parts []int, c api.Graph) {
	t.Helper()
	if _, is, _ := strong.Circle(c); is {
		t.Fatalf("S7: %v: Condense has a circle: %v", g, c)
	}
	reach, short := reaches(g), reaches(c)
	for u := range g.N {
		for v := range g.N {
			if reach[u][v] != short[parts[u]][parts[v]] {
				t.Fatalf("S7: %v: from %d to %d, and not so in %v", g, u, v, c)
			}
		}
	}
	twice, own, e := strong.Condense(c)
	for v, p := range own {
		if p != v {
			t.Fatalf("S7: %v: parts of Condense: %v", g, own)
		}
	}
	if !same(twice, c) || len(own) != c.N || e != api.OK {
		t.Fatalf("S7: %v: Condense of %v is %v, %d", g, c, twice, e)
	}
}

// ordered looks at S4, S5, S8 and S9.
func ordered(t *testing.T, g api.Graph, parts []int) {
	t.Helper()
	order, e := strong.Order(g)
	longest, f := strong.Longest(g)
	want, right := orderByWords(g)
	_, circle, _ := strong.Circle(g)
	loop := false
	for place, to := range g.To {
		loop = loop || source(g, place) == to
	}
	if circle == right || circle != (loop || g.N > 0 && slices.Max(parts) < g.N-1) {
		t.Fatalf("S8: %v: circle %v, order %v, parts %v", g, circle, right, parts)
	}
	if !right {
		if e != api.ErrOrder || f != api.ErrOrder || order != nil || longest != nil {
			t.Fatalf("S8: %v: %v, %d, %v, %d", g, order, e, longest, f)
		}
		return
	}
	if !slices.Equal(order, want) || e != api.OK {
		t.Fatalf("S4: %v: %v, %d, want %v", g, order, e, want)
	}
	if want := longestByWords(g); !slices.Equal(longest, want) || f != api.OK {
		t.Fatalf("S5: %v: %v, %d, want %v", g, longest, f, want)
	}
	stepped := make([]bool, g.N) // an edge comes from a vertex that is one less
	for place, to := range g.To {
		from := source(g, place)
		if slices.Index(order, from) >= slices.Index(order, to) || longest[from] >= longest[to] {
			t.Fatalf("S8, S9: %v: the edge %d in %v, %v", g, place, order, longest)
		}
		stepped[to] = stepped[to] || longest[from]+1 == longest[to]
	}
	for v, n := range longest {
		if (n > 0) != stepped[v] || (n > 0) != slices.Contains(g.To, v) {
			t.Fatalf("S9: %v: the vertex %d in %v", g, v, longest)
		}
	}
}

func TestAllSmallGraphs(t *testing.T) {
	for n := range 4 {
		allSmall(n, func(g api.Graph) { holds(t, g) })
	}
}

func TestGraphsByChance(t *testing.T) {
	someOf(3000, 1, func(g api.Graph) { holds(t, g) })
}

// TestThroughAllVertices: S6: as many vertices as may be, in a row, and in one circle.
func TestThroughAllVertices(t *testing.T) {
	n := api.MaxVertices
	edges := make([]api.Edge, n)
	for i := range edges {
		edges[i] = edge(i, (i+1)%n, uint64(i%7))
	}
	row := build(n, edges[:n-1]...)
	rising := make([]int, n)
	for i := range rising {
		rising[i] = i
	}
	for name, call := range map[string]func(api.Graph) ([]int, api.Errno){"Parts": strong.Parts, "Order": strong.Order, "Longest": strong.Longest} {
		if l, e := call(row); !slices.Equal(l, rising) || e != api.OK {
			t.Errorf("S6: %s of a row: %d", name, e)
		}
	}
	if c, l, e := strong.Condense(row); !same(c, row) || !slices.Equal(l, rising) || e != api.OK {
		t.Errorf("S6: Condense of a row: %d", e)
	}
	if l, is, e := strong.Circle(row); l != nil || is || e != api.OK {
		t.Errorf("S6: Circle of a row: %d, %v, %d", len(l), is, e)
	}
	ring := build(n, edges...)
	if l, e := strong.Parts(ring); !slices.Equal(l, make([]int, n)) || e != api.OK {
		t.Errorf("S6: Parts of a ring: %d", e)
	}
	if c, l, e := strong.Condense(ring); !same(c, build(1)) || !slices.Equal(l, make([]int, n)) || e != api.OK {
		t.Errorf("S6: Condense of a ring: %v, %d", c, e)
	}
	l, is, e := strong.Circle(ring)
	if len(l) != n || !is || e != api.OK {
		t.Fatalf("S6: Circle of a ring: %d, %v, %d", len(l), is, e)
	}
	for i, place := range l {
		if place != (l[0]+i)%n {
			t.Fatalf("S6: Circle of a ring: %d behind %d", place, l[max(i-1, 0)])
		}
	}
	for name, call := range map[string]func(api.Graph) ([]int, api.Errno){"Order": strong.Order, "Longest": strong.Longest} {
		if l, e := call(ring); l != nil || e != api.ErrOrder {
			t.Errorf("S6: %s of a ring: %d", name, e)
		}
	}
}

// TestAsManyEdgesAsMayBe: S6: between as many vertices as may be.
func TestAsManyEdgesAsMayBe(t *testing.T) {
	n := api.MaxVertices
	g := api.Graph{N: n, Start: make([]int, n+1), To: make([]int, api.MaxEdges), Weight: make([]uint64, api.MaxEdges)}
	for i := range g.To {
		g.To[i], g.Weight[i] = i*7919%n, uint64(i)
	}
	for v := range g.Start {
		g.Start[v] = v * (api.MaxEdges / n)
	}
	parts, e := strong.Parts(g)
	c, again, f := strong.Condense(g)
	if e != api.OK || f != api.OK || !slices.Equal(parts, again) || c.N != slices.Max(parts)+1 {
		t.Fatalf("S6: %d, %d, %d", e, f, c.N)
	}
	if _, is, e := strong.Circle(c); is || e != api.OK {
		t.Errorf("S7: Condense has a circle, %d", e)
	}
	back, _ := graph.Turn(g)
	if l, e := strong.Parts(back); !slices.Equal(l, parts) || e != api.OK {
		t.Errorf("S10: %d", e)
	}
}

// wrongGraphs are all no graphs.
func wrongGraphs() []api.Graph {
	return []api.Graph{
		{},
		{N: -1},
		{N: math.MinInt},
		{N: math.MaxInt},
		{N: api.MaxVertices},
		{N: api.MaxVertices + 1, Start: make([]int, api.MaxVertices+2)},
		{N: 1, Start: []int{0, api.MaxEdges + 1}, To: make([]int, api.MaxEdges+1), Weight: make([]uint64, api.MaxEdges+1)},
		{N: 1, Start: []int{0}},
		{N: 1, Start: []int{0, 1}, To: []int{0}},
		{N: 2, Start: []int{0, 2, 1}, To: []int{0}, Weight: []uint64{0}},
		{N: 2, Start: []int{0, math.MaxInt, 1}, To: []int{0}, Weight: []uint64{0}},
		{N: 1, Start: []int{0, 1}, To: []int{1}, Weight: []uint64{0}},
		{N: 1, Start: []int{0, 1}, To: []int{-1}, Weight: []uint64{api.MaxWeight + 1}},
		{N: 1, Start: []int{0, 1}, To: []int{0}, Weight: []uint64{api.MaxWeight + 1}},
	}
}

func TestWhatIsNoGraph(t *testing.T) {
	for i, g := range wrongGraphs() {
		want, _ := graph.Check(g)
		if want == api.OK {
			t.Fatalf("case %d is a graph", i)
		}
		if l, e := strong.Parts(g); l != nil || e != want {
			t.Errorf("S1, P0.2: case %d: %v, %d, want %d", i, l, e, want)
		}
		if c, l, e := strong.Condense(g); !nothing(c) || l != nil || e != want {
			t.Errorf("S2, P0.2: case %d: %v, %v, %d, want %d", i, c, l, e, want)
		}
		if l, is, e := strong.Circle(g); l != nil || is || e != want {
			t.Errorf("S3, P0.2: case %d: %v, %v, %d, want %d", i, l, is, e, want)
		}
		if l, e := strong.Order(g); l != nil || e != want {
			t.Errorf("S4, P0.2: case %d: %v, %d, want %d", i, l, e, want)
		}
		if l, e := strong.Longest(g); l != nil || e != want {
			t.Errorf("S5, P0.2: case %d: %v, %d, want %d", i, l, e, want)
		}
	}
}
