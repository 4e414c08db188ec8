package voucher_test

import (
	"math"
	"math/rand/v2"
	"slices"
	"testing"

	"wayfare/api"
	"wayfare/route"
	"wayfare/voucher"
)

func TestMake(t *testing.T) {
	first := []api.Start{start(0, 0)}
	for i, c := range []struct {
		g      api.Graph
		kind   int
		starts []api.Start
		want   api.Voucher
		e      api.Errno
	}{
		{small(), api.KindSum, first, made([]uint64{0, 3, 1, never}, []int{-1, 2, 1, -1}, []int{0, 2, 1, 0}), api.OK},
		{small(), api.KindHops, first, made([]uint64{0, 1, 1, never}, []int{-1, 0, 1, -1}, []int{0, 1, 1, 0}), api.OK},
		{small(), api.KindSum, nil, made([]uint64{never, never, never, never}, []int{-1, -1, -1, -1}, []int{0, 0, 0, 0}), api.OK},
		{build(0), api.KindMax, nil, api.Voucher{}, api.OK},
		{small(), 0, first, api.Voucher{}, api.ErrKind},
		{small(), 5, []api.Start{start(9, never)}, api.Voucher{}, api.ErrKind},
		{small(), api.KindSum, []api.Start{start(4, never)}, api.Voucher{}, api.ErrVertex},
		{small(), api.KindSum, []api.Start{start(0, api.MaxLabel+1), start(4, 0)}, api.Voucher{}, api.ErrLabel},
		{api.Graph{}, 5, []api.Start{start(9, never)}, api.Voucher{}, api.ErrRows},
		{api.Graph{N: api.MaxVertices + 1}, 5, nil, api.Voucher{}, api.ErrSize},
	} {
		v, e := voucher.Make(c.g, c.kind, c.starts)
		if !same(v, c.want) || e != c.e {
			t.Errorf("V1: %d: %v, %d, want %v, %d", i, v, e, c.want, c.e)
		}
		if e != api.OK && (v.Labels != nil || v.By != nil || v.Depth != nil) {
			t.Errorf("P0.2: %d: %v beside %d", i, v, e)
		}
	}
}

func same(a, b api.Voucher) bool {
	return slices.Equal(a.Labels, b.Labels) && slices.Equal(a.By, b.By) && slices.Equal(a.Depth, b.Depth)
}

func TestMakeIsSearchAndTree(t *testing.T) {
	dice := rand.New(rand.NewPCG(10, 1))
	for range 500 {
		n := 1 + dice.IntN(20)
		g, starts := randomGraph(dice, n, dice.IntN(4*n)), randomStarts(dice, n)
		for _, kind := range kinds {
			labels, _ := route.Search(g, kind, starts)
			by, depth, _ := route.Tree(g, kind, starts, labels)
			v, e := voucher.Make(g, kind, starts)
			if !same(v, made(labels, by, depth)) || e != api.OK {
				t.Fatalf("V1: %v, %d", v, e)
			}
			if e, at := voucher.Check(g, kind, starts, v); e != api.OK || at != 0 {
				t.Fatalf("V3: Check of what Make makes: %d at %d", e, at)
			}
		}
	}
}

func TestEachReasonAlone(t *testing.T) {
	labels, by, depth := []uint64{0, 3, 1, never}, []int{-1, 2, 1, -1}, []int{0, 2, 1, 0}
	first := []api.Start{start(0, 0)}
	for _, c := range []struct {
		why    string
		starts []api.Start
		v      api.Voucher
		e      api.Errno
		at     int
	}{
		{"as made", first, made(labels, by, depth), api.OK, 0},
		{"2: example", first, made([]uint64{0, 4, 1, never}, []int{-1, 0, 1, -1}, []int{0, 1, 1, 0}), api.ErrProof, 1},
		{"example", first, made([]uint64{0, 3, 1, 8}, by, depth), api.ErrProof, 3},
		{"4: example", first, made(labels, by, []int{0, 3, 1, 0}), api.ErrProof, 1},
		// 1 alone: the vertex 1 has a start below the label that comes by its edge
		{"1", []api.Start{start(0, 0), start(1, 2)}, made(labels, by, depth), api.ErrProof, 1},
		{"1, the second of three starts", []api.Start{start(0, 0), start(1, 7), start(1, 2), start(1, 5)}, made(labels, by, depth), api.ErrProof, 1},
		{"1, a start just as good", []api.Start{start(0, 0), start(1, 3)}, made(labels, by, depth), api.OK, 0},
		{"1, a start that is worse", []api.Start{start(1, 4), start(0, 0)}, made(labels, by, depth), api.OK, 0},
		// 2 alone: the start holds the label up, and an edge would lower it
		{"2", []api.Start{start(0, 0), start(1, 4)}, made([]uint64{0, 4, 1, never}, []int{-1, -1, 1, -1}, []int{0, 0, 1, 0}), api.ErrProof, 1},
		{"2, an edge from what is not reached", nil, made([]uint64{never, never, never, never}, []int{-1, -1, -1, -1}, []int{0, 0, 0, 0}), api.OK, 0},
		// 3 alone
		{"3, a depth", first, made(labels, by, []int{0, 2, 1, 1}), api.ErrProof, 3},
		{"3, a depth below 0", first, made(labels, by, []int{0, 2, 1, -1}), api.ErrProof, 3},
		{"3, no start", first, made(labels, []int{-1, 2, -1, -1}, []int{0, 1, 0, 0}), api.ErrProof, 2},
		{"3, below the start", []api.Start{start(0, 0), start(3, 9)}, made([]uint64{0, 3, 1, 8}, by, depth), api.ErrProof, 3},
		{"3, the start", []api.Start{start(0, 0), start(3, 9)}, made([]uint64{0, 3, 1, 9}, by, depth), api.OK, 0},
		{"3, a start by an edge too", []api.Start{start(0, 0), start(1, 3)}, made(labels, []int{-1, -1, 1, -1}, []int{0, 0, 1, 0}), api.OK, 0},
		// 4 alone
		{"4, no place", first, made(labels, []int{-1, 4, 1, -1}, depth), api.ErrProof, 1},
		{"4, below -1", first, made(labels, []int{-1, -2, 1, -1}, depth), api.ErrProof, 1},
		{"4, no place at all", first, made(labels, []int{-1, math.MaxInt, 1, -1}, depth), api.ErrProof, 1},
		{"4, the least place", first, made(labels, []int{-1, math.MinInt, 1, -1}, depth), api.ErrProof, 1},
		{"4, to elsewhere", first, made(labels, []int{-1, 1, 1, -1}, []int{0, 1, 1, 0}), api.ErrProof, 1},
		{"4, not tight", first, made(labels, []int{-1, 0, 1, -1}, []int{0, 1, 1, 0}), api.ErrProof, 1},
		{"4, from what is not reached", nil, made([]uint64{never, never, never, never}, []int{3, -1, -1, -1}, []int{1, 0, 0, 0}), api.ErrProof, 0},
		{"4, a depth too small", first, made(labels, by, []int{0, 1, 1, 0}), api.ErrProof, 1},
		{"4, the depth 0", first, made(labels, by, []int{0, 2, 0, 0}), api.ErrProof, 1},
		{"the least of two", first, made(labels, by, []int{0, 2, 9, 9}), api.ErrProof, 1},
		{"the first of all", first, made([]uint64{5, 3, 1, never}, by, depth), api.ErrProof, 0},
	} {
		if e, at := voucher.Check(small(), api.KindSum, c.starts, c.v); e != c.e || at != c.at {
			t.Errorf("V2: %s: %d at %d, want %d at %d", c.why, e, at, c.e, c.at)
		}
	}
}

func TestDepthsAtTheEndsOfTheirRange(t *testing.T) {
	// 0 and 1 hold one another up by edges of weight 0, 2 hangs on 1
	g := build(3, edge(0, 1, 0), edge(1, 0, 0), edge(1, 2, 0))
	labels, by := []uint64{3, 3, 3}, []int{1, 0, 2}
	ends := []int{math.MinInt, math.MinInt + 1, -2, -1, 0, 1, 2, math.MaxInt - 1, math.MaxInt}
	for _, a := range ends {
		for _, b := range ends {
			for _, c := range ends {
				v := made(labels, by, []int{a, b, c})
				want, place := checkByWords(g, api.KindSum, nil, v)
				if e, at := voucher.Check(g, api.KindSum, nil, v); e != api.ErrProof || e != want || at != place {
					t.Errorf("V2: depths %d, %d, %d: %d at %d, want at %d", a, b, c, e, at, place)
				}
			}
		}
	}
	// the vertex 1 fails alone, whichever depth 0 has
	for _, c := range []struct{ ahead, depth int }{{math.MaxInt, math.MinInt}, {-1, 0}, {math.MinInt, math.MinInt + 1}, {0, 0}, {0, 2}, {0, -1}} {
		if e, at := voucher.Check(build(2, edge(1, 0, 0)), api.KindSum, []api.Start{start(1, 0)}, made([]uint64{0, 0}, []int{0, -1}, []int{c.depth, c.ahead})); e != api.ErrProof || at != 0 {
			t.Errorf("V2: the depth %d behind %d: %d at %d", c.depth, c.ahead, e, at)
		}
	}
}

func TestLabelsAtTheEndsOfTheirRange(t *testing.T) {
	const top = never - 1
	loop := build(1, edge(0, 0, 1))
	for _, kind := range kinds {
		for _, label := range []uint64{0, 1, api.MaxLabel, api.MaxLabel + 1, top - 1, top} {
			for _, depth := range []int{0, 1, 2} {
				if e, at := voucher.Check(loop, kind, nil, made([]uint64{label}, []int{0}, []int{depth})); e != api.ErrProof || at != 0 {
					t.Errorf("V2: a circle, kind %d, label %d, depth %d: %d at %d", kind, label, depth, e, at)
				}
			}
		}
	}
	// sums that would wrap round stop ahead of Never: tight, and yet without a start
	pair := build(2, edge(0, 1, 5))
	if e, at := voucher.Check(pair, api.KindSum, nil, made([]uint64{top - 2, top}, []int{-1, 0}, []int{0, 1})); e != api.ErrProof || at != 0 {
		t.Errorf("V2: a label without a start: %d at %d", e, at)
	}
	if e, at := voucher.Check(pair, api.KindSum, []api.Start{start(0, 0)}, made([]uint64{0, never}, []int{-1, -1}, []int{0, 0})); e != api.ErrProof || at != 1 {
		t.Errorf("V2: reached, and told as not: %d at %d", e, at)
	}
	greatest := []api.Start{start(0, api.MaxLabel)}
	if e, at := voucher.Check(pair, api.KindSum, greatest, made([]uint64{api.MaxLabel, api.MaxLabel + 5}, []int{-1, 0}, []int{0, 1})); e != api.OK || at != 0 {
		t.Errorf("V2: the greatest start: %d at %d", e, at)
	}
}

func TestErrorsAheadOfTheVoucher(t *testing.T) {
	good := made([]uint64{0, 3, 1, never}, []int{-1, 2, 1, -1}, []int{0, 2, 1, 0})
	first := []api.Start{start(0, 0)}
	cut := func(labels, by, depth int) api.Voucher {
		v := made([]uint64{0, 4, 1, never, 0}, []int{9, 9, 9, 9, 9}, []int{9, 9, 9, 9, 9})
		return made(v.Labels[:labels], v.By[:by], v.Depth[:depth])
	}
	for i, c := range []struct {
		g      api.Graph
		kind   int
		starts []api.Start
		v      api.Voucher
		want   api.Errno
	}{
		{api.Graph{}, 5, []api.Start{start(9, never)}, cut(3, 4, 4), api.ErrRows},
		{api.Graph{N: -1}, 5, nil, good, api.ErrSize},
		{small(), 5, []api.Start{start(9, never)}, cut(3, 4, 4), api.ErrKind},
		{small(), 0, first, good, api.ErrKind},
		{small(), api.KindSum, []api.Start{start(4, never)}, cut(3, 4, 4), api.ErrVertex},
		{small(), api.KindSum, []api.Start{start(0, 0), start(0, api.MaxLabel+1), start(4, 0)}, cut(3, 4, 4), api.ErrLabel},
		{small(), api.KindSum, first, cut(3, 4, 4), api.ErrList},
		{small(), api.KindSum, first, cut(4, 3, 4), api.ErrList},
		{small(), api.KindSum, first, cut(4, 4, 3), api.ErrList},
		{small(), api.KindSum, first, cut(5, 4, 4), api.ErrList},
		{small(), api.KindSum, first, cut(4, 5, 4), api.ErrList},
		{small(), api.KindSum, first, cut(4, 4, 5), api.ErrList},
		{small(), api.KindSum, first, cut(3, 3, 3), api.ErrList},
		{small(), api.KindSum, first, api.Voucher{}, api.ErrList},
		{build(0), api.KindSum, nil, cut(1, 1, 1), api.ErrList},
		{build(0), api.KindSum, nil, api.Voucher{}, api.OK},
		{build(0), api.KindSum, nil, made([]uint64{}, []int{}, []int{}), api.OK},
	} {
		if e, at := voucher.Check(c.g, c.kind, c.starts, c.v); e != c.want || at != 0 {
			t.Errorf("V2: %d: %d at %d, want %d at 0", i, e, at, c.want)
		}
	}
}

// randomVoucher is one that was made, with a few numbers changed.
func randomVoucher(dice *rand.Rand, g api.Graph, kind int, starts []api.Start) api.Voucher {
	v, _ := voucher.Make(g, kind, starts)
	for range dice.IntN(4) {
		at := dice.IntN(g.N)
		switch dice.IntN(4) {
		case 0:
			v.Labels[at] = dice.Uint64N(4)
		case 1:
			v.Labels[at] = never - dice.Uint64N(3)
		case 2:
			v.By[at] = dice.IntN(len(g.To)+3) - 2
		case 3:
			v.Depth[at] = dice.IntN(4) - 1
		}
	}
	return v
}

func TestCheckIsAsItIsTold(t *testing.T) {
	dice := rand.New(rand.NewPCG(10, 2))
	accepted, changed := 0, 0
	for range 20000 {
		n := 1 + dice.IntN(6)
		g, starts := randomGraph(dice, n, dice.IntN(3*n)), randomStarts(dice, n)
		kind := kinds[dice.IntN(4)]
		v := randomVoucher(dice, g, kind, starts)
		want, place := checkByWords(g, kind, starts, v)
		e, at := voucher.Check(g, kind, starts, v)
		if e != want || at != place {
			t.Fatalf("V2: %v, kind %d, %v, %v: %d at %d, want %d at %d", g, kind, starts, v, e, at, want, place)
		}
		least, _ := route.Search(g, kind, starts)
		if !slices.Equal(v.Labels, least) {
			changed++
			if e == api.OK {
				t.Fatalf("P0.17: accepted: %v, the least are %v", v, least)
			}
		}
		if e == api.OK {
			accepted++
			endsAtStarts(t, g, starts, v)
		}
	}
	if accepted < 1000 || changed < 1000 {
		t.Errorf("%d were accepted, %d have other labels: too few", accepted, changed)
	}
}

// endsAtStarts goes back from each vertex by By.
func endsAtStarts(t *testing.T, g api.Graph, starts []api.Start, v api.Voucher) {
	t.Helper()
	for at := range g.N {
		way, e := route.Path(g, v.By, at)
		if e != api.OK || len(way) != v.Depth[at] {
			t.Fatalf("V3: back from %d: %v, %d, the depth is %d", at, way, e, v.Depth[at])
		}
		if len(way) == 0 {
			continue
		}
		root := 0
		for g.Start[root+1] <= way[0] {
			root++
		}
		if !slices.ContainsFunc(starts, func(s api.Start) bool { return s.Vertex == root }) {
			t.Fatalf("V3: back from %d comes to %d, where no start is", at, root)
		}
	}
}
