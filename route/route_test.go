package route_test

import (
	"math"
	"math/rand/v2"
	"slices"
	"testing"

	"wayfare/api"
	"wayfare/route"
)

func TestExtendAtItsEdges(t *testing.T) {
	for _, c := range []struct {
		kind                int
		label, weight, want uint64
	}{
		{api.KindSum, never - 2, 5, never - 1},
		{api.KindMax, 3, never, never - 1},
		{api.KindSum, never, 1, never},
		{api.KindSum, 3, 4, 7},
		{api.KindSum, 0, 0, 0},
		{api.KindSum, never - 3, 1, never - 2},
		{api.KindSum, never - 2, 1, never - 1},
		{api.KindSum, never - 1, 1, never - 1},
		{api.KindSum, never - 1, 0, never - 1},
		{api.KindSum, never - 1, never, never - 1},
		{api.KindSum, 0, never, never - 1},
		{api.KindSum, 0, never - 1, never - 1},
		{api.KindSum, 1 << 63, 1 << 63, never - 1},
		{api.KindSum, 1 << 63, 1<<63 - 2, never - 1},
		{api.KindSum, 1 << 63, 1<<63 - 3, never - 2},
		{api.KindHops, 3, never, 4},
		{api.KindHops, never - 2, 0, never - 1},
		{api.KindHops, never - 1, 0, never - 1},
		{api.KindHops, never, 0, never},
		{api.KindMax, 3, 4, 4},
		{api.KindMax, 5, 4, 5},
		{api.KindMax, 3, never - 1, never - 1},
		{api.KindMax, 3, never - 2, never - 2},
		{api.KindMax, never - 1, 0, never - 1},
		{api.KindMax, never, 0, never},
		{api.KindLabel, 3, never, 3},
		{api.KindLabel, never - 1, 7, never - 1},
		{api.KindLabel, never, 7, never},
	} {
		if x, e := route.Extend(c.kind, c.label, c.weight); x != c.want || e != api.OK {
			t.Errorf("R2: Extend(%d, %d, %d) = %d, %d, want %d", c.kind, c.label, c.weight, x, e, c.want)
		}
	}
	for _, kind := range []int{0, 5, -1, math.MinInt, math.MaxInt} {
		for _, label := range []uint64{0, never} {
			if x, e := route.Extend(kind, label, 1); x != 0 || e != api.ErrKind {
				t.Errorf("R2: Extend of the kind %d = %d, %d", kind, x, e)
			}
		}
	}
}

func TestExtendNeverFalls(t *testing.T) {
	dice := rand.New(rand.NewPCG(9, 1))
	number := func() uint64 {
		x := dice.Uint64() >> dice.IntN(64)
		if dice.IntN(2) == 0 {
			return never - x
		}
		return x
	}
	for range 20000 {
		kind := kinds[dice.IntN(4)]
		a, b, w := number(), number(), number()
		x, _ := route.Extend(kind, a, w)
		y, _ := route.Extend(kind, b, w)
		if x != extended(kind, a, w) {
			t.Errorf("R2: Extend(%d, %d, %d) = %d", kind, a, w, x)
		}
		if x < a || a <= b && x > y {
			t.Errorf("R12: kind %d, weight %d: %d to %d, %d to %d", kind, w, a, x, b, y)
		}
	}
}

func TestStarts(t *testing.T) {
	g := small()
	for _, kind := range []int{api.KindSum, api.KindHops, api.KindMax} {
		for from := range 4 {
			if s, e := route.Starts(g, kind, from); e != api.OK || !slices.Equal(s, []api.Start{start(from, 0)}) {
				t.Errorf("R3: Starts(g, %d, %d) = %v, %d", kind, from, s, e)
			}
		}
	}
	for from := range 4 {
		if s, e := route.Starts(g, api.KindLabel, from); e != api.OK || !slices.Equal(s, []api.Start{start(0, 0), start(1, 1), start(2, 2), start(3, 3)}) {
			t.Errorf("R3: Starts(g, KindLabel, %d) = %v, %d", from, s, e)
		}
	}
	for _, kind := range kinds {
		for _, from := range []int{4, -1, math.MaxInt, math.MinInt} {
			if s, e := route.Starts(g, kind, from); s != nil || e != api.ErrVertex {
				t.Errorf("R3: Starts(g, %d, %d) = %v, %d", kind, from, s, e)
			}
		}
		if s, e := route.Starts(build(0), kind, 0); s != nil || e != api.ErrVertex {
			t.Errorf("R3: no vertices: %v, %d", s, e)
		}
	}
	for _, kind := range []int{0, 5} {
		if s, e := route.Starts(g, kind, 9); s != nil || e != api.ErrKind {
			t.Errorf("R3: the kind %d: %v, %d", kind, s, e)
		}
	}
}

// noGraphs are graphs that are none, and what graph.Check answers.
func noGraphs() map[string]struct {
	g api.Graph
	e api.Errno
} {
	return map[string]struct {
		g api.Graph
		e api.Errno
	}{
		"too many":   {api.Graph{N: api.MaxVertices + 1}, api.ErrSize},
		"below none": {api.Graph{N: math.MinInt, Start: []int{0}}, api.ErrSize},
		"zero":       {api.Graph{}, api.ErrRows},
		"no rows":    {api.Graph{N: api.MaxVertices}, api.ErrRows},
		"falls":      {api.Graph{N: 2, Start: []int{0, 2, 1}, To: []int{0}, Weight: []uint64{0}}, api.ErrRows},
		"goes out":   {api.Graph{N: 1, Start: []int{0, 1}, To: []int{1}, Weight: []uint64{0}}, api.ErrVertex},
		"heavy":      {api.Graph{N: 1, Start: []int{0, 1}, To: []int{0}, Weight: []uint64{api.MaxWeight + 1}}, api.ErrWeight},
	}
}

func TestTheGraphsErrorComesFirst(t *testing.T) {
	wrong := []api.Start{start(-9, never)}
	for name, c := range noGraphs() {
		if s, e := route.Starts(c.g, 9, -9); s != nil || e != c.e {
			t.Errorf("%s: Starts: %v, %d, want %d", name, s, e, c.e)
		}
		if l, e := route.Search(c.g, 9, wrong); l != nil || e != c.e {
			t.Errorf("%s: Search: %v, %d, want %d", name, l, e, c.e)
		}
		if l, n, e := route.Rounds(c.g, 9, wrong); l != nil || n != 0 || e != c.e {
			t.Errorf("%s: Rounds: %v, %d, %d, want %d", name, l, n, e, c.e)
		}
		if by, depth, e := route.Tree(c.g, 9, wrong, []uint64{1, 2, 3}); by != nil || depth != nil || e != c.e {
			t.Errorf("%s: Tree: %v, %v, %d, want %d", name, by, depth, e, c.e)
		}
		if l, e := route.Path(c.g, []int{9, 9, 9}, -9); l != nil || e != c.e {
			t.Errorf("%s: Path: %v, %d, want %d", name, l, e, c.e)
		}
		if x, e := route.Length(c.g, 9, 7, []int{-9}); x != 0 || e != c.e {
			t.Errorf("%s: Length: %d, %d, want %d", name, x, e, c.e)
		}
	}
}

func TestErrorsInTheirOrder(t *testing.T) {
	g := small()
	for i, c := range []struct {
		kind   int
		starts []api.Start
		want   api.Errno
	}{
		{0, []api.Start{start(4, never)}, api.ErrKind},
		{5, nil, api.ErrKind},
		{-1, nil, api.ErrKind},
		{api.KindHops, []api.Start{start(4, 0)}, api.ErrVertex},
		{api.KindHops, []api.Start{start(0, api.MaxLabel+1)}, api.ErrLabel},
		{api.KindSum, []api.Start{start(0, never)}, api.ErrLabel},
		{api.KindSum, []api.Start{start(4, never)}, api.ErrVertex},
		{api.KindMax, []api.Start{start(3, 0), start(2, api.MaxLabel+1), start(-1, 0)}, api.ErrLabel},
		{api.KindLabel, []api.Start{start(3, 0), start(math.MinInt, 0), start(2, api.MaxLabel+1)}, api.ErrVertex},
	} {
		if l, e := route.Search(g, c.kind, c.starts); l != nil || e != c.want {
			t.Errorf("%d: Search: %v, %d, want %d", i, l, e, c.want)
		}
		if l, n, e := route.Rounds(g, c.kind, c.starts); l != nil || n != 0 || e != c.want {
			t.Errorf("%d: Rounds: %v, %d, %d, want %d", i, l, n, e, c.want)
		}
		for _, labels := range [][]uint64{nil, {1, 2, 3, 4}} {
			if by, depth, e := route.Tree(g, c.kind, c.starts, labels); by != nil || depth != nil || e != c.want {
				t.Errorf("%d: Tree: %v, %v, %d, want %d", i, by, depth, e, c.want)
			}
		}
	}
}

func TestWhateverIsGiven(t *testing.T) {
	dice := rand.New(rand.NewPCG(9, 9))
	number := func() int {
		switch dice.IntN(20) {
		case 0:
			return math.MaxInt
		case 1:
			return math.MinInt
		}
		return dice.IntN(6) - 1
	}
	numbers := func() []int {
		list := make([]int, dice.IntN(5))
		for i := range list {
			list[i] = number()
		}
		return list
	}
	words := func() []uint64 {
		list := make([]uint64, dice.IntN(5))
		for i := range list {
			list[i] = uint64(number())
		}
		return list
	}
	for range 50000 {
		g := api.Graph{N: number(), Start: numbers(), To: numbers(), Weight: words()}
		if dice.IntN(2) == 0 {
			g = small()
		}
		var starts []api.Start
		for range dice.IntN(3) {
			starts = append(starts, start(number(), uint64(number())))
		}
		kind := number()
		route.Starts(g, kind, number())
		route.Search(g, kind, starts)
		route.Rounds(g, kind, starts)
		route.Tree(g, kind, starts, words())
		route.Path(g, numbers(), number())
		route.Length(g, kind, uint64(number()), numbers())
	}
}
