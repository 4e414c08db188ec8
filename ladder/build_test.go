package ladder_test

import (
	"math"
	"math/rand/v2"
	"slices"
	"testing"

	"wayfare/api"
	"wayfare/graph"
	"wayfare/ladder"
)

func TestLaddersOfTheExamples(t *testing.T) {
	first := func(weights ...uint64) []api.Rung {
		return []api.Rung{plain(0, 1, weights[0], 0), plain(0, 2, weights[1], 1), plain(1, 2, weights[2], 2), plain(1, 3, weights[3], 3), plain(2, 3, weights[4], 4), plain(3, 0, weights[5], 5)}
	}
	for _, c := range []struct {
		kind int
		want []api.Rung
	}{
		{api.KindSum, append(first(1, 9, 1, 1, 1, 2), over(0, 2, 2, 1, 0, 2), over(0, 3, 2, 1, 0, 3), over(3, 2, 4, 0, 5, 6))},
		{api.KindMax, append(first(1, 9, 1, 1, 1, 2), over(0, 2, 1, 1, 0, 2), over(0, 3, 1, 1, 0, 3), over(3, 2, 2, 0, 5, 6))},
		{api.KindHops, append(first(1, 1, 1, 1, 1, 1), over(0, 3, 2, 1, 0, 3), over(3, 2, 2, 0, 5, 1))},
	} {
		l := made(t, example(), c.kind, 1, 0, 2, 3)
		if l.Kind != c.kind || !slices.Equal(l.Rank, []int{1, 0, 2, 3}) || !slices.Equal(l.Rungs, c.want) {
			t.Errorf("V1: kind %d: %v, want %v", c.kind, l, c.want)
		}
	}
	ranked := made(t, build(3, edge(0, 1, 1), edge(1, 2, 1)), api.KindSum, 1, 2, 0)
	if !slices.Equal(ranked.Rank, []int{2, 0, 1}) || !slices.Equal(ranked.Rungs, []api.Rung{plain(0, 1, 1, 0), plain(1, 2, 1, 1), over(0, 2, 2, 1, 0, 1)}) {
		t.Errorf("V1: the vertex order[i] has the rank i: %v", ranked)
	}
	twins := build(2, edge(0, 1, 7), edge(0, 0, 1), edge(0, 1, 3), edge(0, 1, 3))
	if l := made(t, twins, api.KindSum, 0, 1); !slices.Equal(l.Rungs, []api.Rung{plain(0, 1, 3, 2)}) {
		t.Errorf("V1: the lightest edge, then the least place: %v", l)
	}
	if l := made(t, twins, api.KindHops, 0, 1); !slices.Equal(l.Rungs, []api.Rung{plain(0, 1, 1, 0)}) {
		t.Errorf("V1: by hops the least place: %v", l)
	}
	if l := made(t, build(0), api.KindMax); l.Kind != api.KindMax || len(l.Rank)+len(l.Rungs) != 0 {
		t.Errorf("V1: no vertices: %v", l)
	}
}

// TestBuildByChance: V1 and V10: rung by rung as the words say, of all kinds, in several orders; and Check takes it.
func TestBuildByChance(t *testing.T) {
	someOf(600, 1, func(dice *rand.Rand, g api.Graph) {
		easy, e := ladder.Easy(g)
		if want := easyByWords(g); !slices.Equal(easy, want) || e != api.OK {
			t.Fatalf("V2: %v: %v, %d, want %v", g, easy, e, want)
		}
		for _, order := range [][]int{easy, dice.Perm(g.N), dice.Perm(g.N)} {
			for _, kind := range kinds {
				l := made(t, g, kind, order...)
				if want := rungsByWords(g, kind, order); !slices.Equal(l.Rungs, want) {
					t.Fatalf("V1: %v, kind %d, order %v: %v, want %v", g, kind, order, l.Rungs, want)
				}
				for i, v := range order {
					if len(l.Rank) != g.N || l.Rank[v] != i {
						t.Fatalf("V1: order %v: Rank %v", order, l.Rank)
					}
				}
				if e, at := ladder.Check(g, l); e != api.OK || at != 0 {
					t.Fatalf("V10: %v, %v: %d, %d", g, l, e, at)
				}
			}
		}
	})
}

// TestAllOrders: V1: a graph of five vertices in all orders.
func TestAllOrders(t *testing.T) {
	g := build(5, edge(0, 1, 2), edge(1, 2, 0), edge(2, 3, 4), edge(3, 4, 1), edge(4, 0, 3), edge(0, 2, 2), edge(1, 4, 7), edge(3, 1, 1), edge(2, 0, 5))
	var orders [][]int
	var next func(order []int)
	next = func(order []int) {
		if len(order) == g.N {
			orders = append(orders, slices.Clone(order))
		}
		for v := range g.N {
			if !slices.Contains(order, v) {
				next(append(slices.Clone(order), v))
			}
		}
	}
	next(nil)
	for _, order := range orders {
		for _, kind := range kinds {
			l := made(t, g, kind, order...)
			if want := rungsByWords(g, kind, order); !slices.Equal(l.Rungs, want) {
				t.Fatalf("V1: kind %d, order %v: %v, want %v", kind, order, l.Rungs, want)
			}
			keepsLabels(t, g, l)
		}
	}
}

func TestEasy(t *testing.T) {
	for _, c := range []struct {
		name string
		g    api.Graph
		want []int
	}{
		{"the example", example(), []int{0, 1, 2, 3}},
		{"a star", build(4, edge(0, 1, 0), edge(0, 2, 0), edge(0, 3, 0), edge(1, 0, 0), edge(2, 0, 0), edge(3, 0, 0)), []int{1, 2, 0, 3}},
		{"no vertices", build(0), nil},
		{"no edges", build(3), []int{0, 1, 2}},
		{"loops do not count", build(3, edge(0, 0, 0), edge(0, 1, 0), edge(1, 0, 0), edge(2, 2, 0)), []int{2, 0, 1}},
		{"several edges count once", build(4, edge(0, 1, 1), edge(0, 1, 2), edge(0, 1, 3), edge(1, 0, 0), edge(2, 3, 0), edge(3, 2, 0), edge(2, 1, 0), edge(1, 2, 0)), []int{0, 1, 2, 3}},
	} {
		if l, e := ladder.Easy(c.g); !slices.Equal(l, c.want) || e != api.OK || !slices.Equal(l, easyByWords(c.g)) {
			t.Errorf("V2: %s: %v, %d, want %v", c.name, l, e, c.want)
		}
	}
}

// dense is a graph in which an edge goes from each of many vertices to each other one: all weigh 10, but from the first ones behind 0 to 0, and from 0 to the next ones.
func dense(first, next int) api.Graph {
	n := api.MaxLadder
	g := api.Graph{N: n, Start: []int{0}}
	for u := range n {
		for v := range n {
			if u == v {
				continue
			}
			weight := uint64(10)
			if v == 0 && u <= first || u == 0 && v > first && v <= first+next {
				weight = 1
			}
			g.To, g.Weight = append(g.To, v), append(g.Weight, weight)
		}
		g.Start = append(g.Start, len(g.To))
	}
	return g
}

// TestAsManyRungsAsMayBe: V1: 1024 vertices with edges between all of them, and just as many rungs more as there is room for; then one more.
func TestAsManyRungsAsMayBe(t *testing.T) {
	order := make([]int, api.MaxLadder)
	for i := range order {
		order[i] = i
	}
	g := dense(32, 32)
	l := made(t, g, api.KindSum, order...)
	if len(l.Rungs) != api.MaxRungs {
		t.Fatalf("V1: %d rungs", len(l.Rungs))
	}
	last := l.Rungs[api.MaxRungs-1]
	if last != over(32, 64, 2, 0, lastOf(l.Rungs, 32, 0), lastOf(l.Rungs, 0, 64)) {
		t.Errorf("V1: the last rung: %v", last)
	}
	if x, way, e := ladder.Climb(l, 32, 64); x != 2 || e != api.OK || !slices.Equal(way, []int{api.MaxRungs - 1}) {
		t.Errorf("V5: %d, %v, %d", x, way, e)
	}
	if places, e := ladder.Unfold(l, []int{api.MaxRungs - 1}); e != api.OK || len(places) != 2 || g.To[places[0]] != 0 || g.To[places[1]] != 64 {
		t.Errorf("V6: %v, %d", places, e)
	}
	if e, at := ladder.Check(g, l); e != api.OK || at != 0 {
		t.Errorf("V3: %d, %d", e, at)
	}
	many := dense(25, 41)
	if l, e := ladder.Build(many, api.KindSum, order); l.Kind != 0 || l.Rank != nil || l.Rungs != nil || e != api.ErrMany {
		t.Errorf("V1: one more: %d rungs, %d", len(l.Rungs), e)
	}
	if e, at := ladder.Check(many, api.Ladder{Kind: api.KindSum, Rank: order}); e != api.ErrMany || at != 0 {
		t.Errorf("V3: one more: %d, %d", e, at)
	}
	if l, e := ladder.Easy(g); len(l) != api.MaxLadder || e != api.OK {
		t.Errorf("V2: %d, %d", len(l), e)
	}
}

// wrong is what Build may be handed that is no graph, no kind, no order.
type wrong struct {
	g     api.Graph
	kind  int
	order []int
	e     api.Errno
}

// wrongOnes are these, each with what comes first.
func wrongOnes() []wrong {
	g := example()
	great := api.Graph{N: api.MaxLadder + 1, Start: make([]int, api.MaxLadder+2)}
	out := []wrong{
		{great, 9, nil, api.ErrSize},
		{great, api.KindSum, make([]int, api.MaxLadder+1), api.ErrSize},
		{g, api.KindLabel, nil, api.ErrKind},
		{g, 0, []int{0, 0, 0, 0}, api.ErrKind},
		{g, math.MinInt, []int{0, 1, 2, 3}, api.ErrKind},
		{g, math.MaxInt, []int{0, 1, 2, 3}, api.ErrKind},
		{g, api.KindSum, nil, api.ErrList},
		{g, api.KindSum, []int{1, 0, 2}, api.ErrList},
		{g, api.KindHops, []int{9, 9, 9, 9, 9}, api.ErrList},
		{g, api.KindSum, []int{1, 0, 2, 2}, api.ErrOrder},
		{g, api.KindMax, []int{1, 0, 2, 4}, api.ErrOrder},
		{g, api.KindMax, []int{1, 0, 2, -1}, api.ErrOrder},
		{g, api.KindMax, []int{math.MaxInt, math.MinInt, 2, -1}, api.ErrOrder},
		{build(0), api.KindSum, []int{0}, api.ErrList},
		{build(0), api.KindLabel, nil, api.ErrKind},
	}
	for _, g := range []api.Graph{
		{},
		{N: -1},
		{N: math.MaxInt},
		{N: api.MaxVertices},
		{N: api.MaxVertices + 1, Start: make([]int, api.MaxVertices+2)},
		{N: api.MaxLadder + 1, Start: make([]int, 3)},
		{N: 2, Start: []int{0, 2, 1}, To: []int{0}, Weight: []uint64{0}},
		{N: 1, Start: []int{0, 1}, To: []int{1}, Weight: []uint64{0}},
		{N: 1, Start: []int{0, 1}, To: []int{0}, Weight: []uint64{api.MaxWeight + 1}},
	} {
		e, _ := graph.Check(g)
		out = append(out, wrong{g, 0, []int{5}, e})
	}
	return out
}

func TestErrorsInTheirOrder(t *testing.T) {
	for i, c := range wrongOnes() {
		if l, e := ladder.Build(c.g, c.kind, c.order); l.Kind != 0 || l.Rank != nil || l.Rungs != nil || e != c.e {
			t.Errorf("V1, P0.2: case %d: %v, %d, want %d", i, l, e, c.e)
		}
		if e, at := ladder.Check(c.g, api.Ladder{Kind: c.kind, Rank: c.order, Rungs: []api.Rung{{}}}); e != c.e || at != 0 {
			t.Errorf("V3, P0.2: case %d: %d, %d, want %d", i, e, at, c.e)
		}
		want := c.e
		if bad, _ := graph.Check(c.g); bad == api.OK && c.g.N <= api.MaxLadder {
			want = api.OK
		}
		if l, e := ladder.Easy(c.g); e != want || e != api.OK && l != nil {
			t.Errorf("V2, P0.2: case %d: %v, %d, want %d", i, l, e, want)
		}
	}
	order := rand.New(rand.NewPCG(23, 9)).Perm(api.MaxLadder)
	most := api.Graph{N: api.MaxLadder, Start: make([]int, api.MaxLadder+1)}
	if l := made(t, most, api.KindSum, order...); len(l.Rank) != api.MaxLadder || len(l.Rungs) != 0 {
		t.Errorf("V1: as many vertices as may be: %d rungs", len(l.Rungs))
	}
	if l, e := ladder.Easy(most); len(l) != api.MaxLadder || e != api.OK {
		t.Errorf("V2: as many vertices as may be: %d", e)
	}
}

func TestCheck(t *testing.T) {
	g := example()
	for _, c := range []struct {
		name string
		turn func(l *api.Ladder)
		e    api.Errno
		at   int
	}{
		{"as it is", func(l *api.Ladder) {}, api.OK, 0},
		{"the weight of the rung 6", func(l *api.Ladder) { l.Rungs[6].Weight = 3 }, api.ErrProof, 6},
		{"without the rung 8", func(l *api.Ladder) { l.Rungs = l.Rungs[:8] }, api.ErrProof, 8},
		{"without rungs", func(l *api.Ladder) { l.Rungs = nil }, api.ErrProof, 0},
		{"without the rung 3", func(l *api.Ladder) { l.Rungs = slices.Delete(l.Rungs, 3, 4) }, api.ErrProof, 3},
		{"one put behind", func(l *api.Ladder) { l.Rungs = append(l.Rungs, plain(0, 1, 1, 0)) }, api.ErrProof, 9},
		{"the first of several", func(l *api.Ladder) { l.Rungs[7].Low = 1; l.Rungs[4].By = 3 }, api.ErrProof, 4},
		{"two changed round", func(l *api.Ladder) { l.Rungs[6], l.Rungs[7] = l.Rungs[7], l.Rungs[6] }, api.ErrProof, 6},
		{"another kind", func(l *api.Ladder) { l.Kind = api.KindHops }, api.ErrProof, 1},
		{"another order", func(l *api.Ladder) { l.Rank = []int{0, 1, 2, 3} }, api.ErrProof, 6},
		{"a rank too few", func(l *api.Ladder) { l.Rank = l.Rank[:3]; l.Rungs = nil }, api.ErrList, 0},
		{"no order", func(l *api.Ladder) { l.Rank[0] = 0; l.Rungs = nil }, api.ErrOrder, 0},
		{"no kind", func(l *api.Ladder) { l.Kind = api.KindLabel; l.Rank = nil }, api.ErrKind, 0},
	} {
		l := made(t, g, api.KindSum, 1, 0, 2, 3)
		c.turn(&l)
		if e, at := ladder.Check(g, l); e != c.e || at != c.at {
			t.Errorf("V3: %s: %d, %d, want %d, %d", c.name, e, at, c.e, c.at)
		}
	}
	// a ladder of another graph, alike but for one edge
	l := made(t, build(4, edge(0, 1, 1), edge(0, 2, 9), edge(1, 2, 1), edge(1, 3, 1), edge(2, 3, 5), edge(3, 0, 2)), api.KindSum, 1, 0, 2, 3)
	if e, at := ladder.Check(g, l); e != api.ErrProof || at != 4 {
		t.Errorf("V10: another graph's: %d, %d", e, at)
	}
}

// TestCheckByChance: V10: a ladder with any field of any rung changed, a rung left out, one put in, is refused at that rung.
func TestCheckByChance(t *testing.T) {
	someOf(2000, 2, func(dice *rand.Rand, g api.Graph) {
		l := made(t, g, kinds[dice.IntN(3)], dice.Perm(g.N)...)
		n := len(l.Rungs)
		at := dice.IntN(n + 1)
		switch {
		case at == n:
			l.Rungs = append(l.Rungs, over(0, 0, 0, 0, 0, 0))
		case dice.IntN(3) == 0: // the same rung never stands there twice
			l.Rungs = slices.Delete(l.Rungs, at, at+1)
		case dice.IntN(2) == 0:
			l.Rungs = slices.Insert(l.Rungs, at, plain(-1, 0, 0, 0))
		default:
			r := &l.Rungs[at]
			field := dice.IntN(7)
			if field == 6 {
				r.Weight += 1 + dice.Uint64N(3)
			} else {
				*[]*int{&r.From, &r.To, &r.By, &r.Via, &r.Low, &r.High}[field] += []int{-1, 1, 7}[dice.IntN(3)]
			}
		}
		if e, i := ladder.Check(g, l); e != api.ErrProof || i != at {
			t.Fatalf("V10: %v, %v: %d, %d, want %d", g, l, e, i, at)
		}
	})
}
