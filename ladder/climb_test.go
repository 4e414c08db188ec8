package ladder_test

import (
	"math"
	"math/rand/v2"
	"slices"
	"testing"

	"wayfare/api"
	"wayfare/ladder"
	"wayfare/route"
)

func TestClimbsOfTheExamples(t *testing.T) {
	l := made(t, example(), api.KindSum, 1, 0, 2, 3)
	for _, c := range []struct {
		from, to int
		label    uint64
		way      []int
		e        api.Errno
	}{
		{0, 3, 2, []int{7}, api.OK},
		{3, 1, 3, []int{5, 0}, api.OK},
		{2, 2, 0, nil, api.OK},
		{1, 1, 0, nil, api.OK},
		{3, 2, 4, []int{8}, api.OK},
		{0, 4, 0, nil, api.ErrVertex},
		{4, 0, 0, nil, api.ErrVertex},
		{-1, 0, 0, nil, api.ErrVertex},
		{math.MinInt, math.MaxInt, 0, nil, api.ErrVertex},
	} {
		if x, way, e := ladder.Climb(l, c.from, c.to); x != c.label || !slices.Equal(way, c.way) || e != c.e {
			t.Errorf("V5: from %d to %d: %d, %v, %d, want %d, %v, %d", c.from, c.to, x, way, e, c.label, c.way, c.e)
		}
	}
	for _, c := range []struct {
		rungs, want []int
		e           api.Errno
	}{
		{[]int{8}, []int{5, 0, 2}, api.OK},
		{[]int{8, 0, 8}, []int{5, 0, 2, 0, 5, 0, 2}, api.OK},
		{nil, nil, api.OK},
		{[]int{9}, nil, api.ErrPlace},
		{[]int{0, 9}, nil, api.ErrPlace},
		{[]int{0, -1}, nil, api.ErrPlace},
		{[]int{math.MaxInt}, nil, api.ErrPlace},
		{[]int{math.MinInt}, nil, api.ErrPlace},
	} {
		if places, e := ladder.Unfold(l, c.rungs); !slices.Equal(places, c.want) || e != c.e || e != api.OK && places != nil {
			t.Errorf("V6: Unfold(%v) = %v, %d, want %v, %d", c.rungs, places, e, c.want, c.e)
		}
	}
	none := made(t, build(2), api.KindSum, 1, 0)
	if x, way, e := ladder.Climb(none, 0, 1); x != 0 || way != nil || e != api.ErrReach {
		t.Errorf("V5: %d, %v, %d", x, way, e)
	}
	if places, e := ladder.Unfold(none, []int{0}); places != nil || e != api.ErrPlace {
		t.Errorf("V6: %v, %d", places, e)
	}
	empty := made(t, build(0), api.KindHops)
	if x, way, e := ladder.Climb(empty, 0, 0); x != 0 || way != nil || e != api.ErrVertex {
		t.Errorf("V5: %d, %v, %d", x, way, e)
	}
}

// keepsLabels looks at V7 between all vertices of a graph.
func keepsLabels(t *testing.T, g api.Graph, l api.Ladder) {
	t.Helper()
	for from := range g.N {
		labels := labelsFrom(g, l.Kind, from)
		for to := range g.N {
			x, rungs, e := ladder.Climb(l, from, to)
			if labels[to] == never {
				if e != api.ErrReach || x != 0 || rungs != nil {
					t.Fatalf("V7: %v, %v, from %d to %d: %d, %v, %d", g, l, from, to, x, rungs, e)
				}
				continue
			}
			if x != labels[to] || e != api.OK {
				t.Fatalf("V7: %v, %v, from %d to %d: %d, %d, want %d", g, l, from, to, x, e, labels[to])
			}
			goodClimb(t, l, from, to, x, rungs)
			wantUnfolded(t, g, l, from, to, x, rungs)
		}
	}
}

// wantUnfolded looks that rungs unfold to a way in the graph that has this label.
func wantUnfolded(t *testing.T, g api.Graph, l api.Ladder, from, to int, label uint64, rungs []int) {
	t.Helper()
	places, e := ladder.Unfold(l, rungs)
	if e != api.OK || !slices.Equal(places, unfoldByWords(l, rungs...)) {
		t.Fatalf("V6: %v, %v: %v, %d", l, rungs, places, e)
	}
	if x, e := route.Length(g, l.Kind, 0, places); x != label || e != api.OK {
		t.Fatalf("V7: %v, %v: along %v it is %d, %d, want %d", g, l, places, x, e, label)
	}
	if len(places) == 0 && from != to || len(places) > 0 && (source(g, places[0]) != from || g.To[places[len(places)-1]] != to) {
		t.Fatalf("V7: %v, %v, from %d to %d: %v", g, l, from, to, places)
	}
}

// wantRungs looks at V9.
func wantRungs(t *testing.T, g api.Graph, l api.Ladder) {
	t.Helper()
	for i, r := range l.Rungs {
		wantUnfolded(t, g, l, r.From, r.To, r.Weight, []int{i})
		places := unfoldByWords(l, i)
		met := []int{r.From}
		for _, place := range places {
			v := g.To[place]
			if slices.Contains(met, v) || v != r.To && l.Rank[v] >= min(l.Rank[r.From], l.Rank[r.To]) {
				t.Fatalf("V9: %v, %v: the rung %d unfolds to %v", g, l, i, places)
			}
			met = append(met, v)
		}
	}
}

// TestLabelsByChance: V7, V8, V9, of all kinds and in several orders.
func TestLabelsByChance(t *testing.T) {
	someOf(500, 3, func(dice *rand.Rand, g api.Graph) {
		easy, _ := ladder.Easy(g)
		for _, order := range [][]int{easy, dice.Perm(g.N), dice.Perm(g.N)} {
			for _, kind := range kinds {
				l := made(t, g, kind, order...)
				keepsLabels(t, g, l)
				wantRungs(t, g, l)
			}
		}
	})
}

// byHand is a ladder that is sound in form, and need be one of no graph: weights and edges' places are any, and of several rungs of a pair the last one may be the heaviest.
func byHand(dice *rand.Rand) api.Ladder {
	n := 2 + dice.IntN(6)
	l := api.Ladder{Kind: kinds[dice.IntN(3)], Rank: dice.Perm(n)}
	for range dice.IntN(5 * n) {
		from, to, via := dice.IntN(n), dice.IntN(n), dice.IntN(n)
		if from == to {
			continue
		}
		low, high := anyOf(dice, l.Rungs, from, via), anyOf(dice, l.Rungs, via, to)
		if dice.IntN(2) == 0 || low < 0 || high < 0 || l.Rank[via] >= min(l.Rank[from], l.Rank[to]) {
			weight := dice.Uint64N(9)
			if dice.IntN(20) == 0 {
				weight = 1<<51 - weight
			}
			l.Rungs = append(l.Rungs, plain(from, to, weight, dice.IntN(api.MaxEdges)))
			continue
		}
		if weight := joined(l.Kind, l.Rungs[low].Weight, l.Rungs[high].Weight); weight <= 1<<51 {
			l.Rungs = append(l.Rungs, over(from, to, weight, via, low, high))
		}
	}
	return l
}

// anyOf is the number of a rung of a pair, by chance one of several; -1, if there is none.
func anyOf(dice *rand.Rand, rungs []api.Rung, from, to int) int {
	var all []int
	for i, r := range rungs {
		if r.From == from && r.To == to {
			all = append(all, i)
		}
	}
	if len(all) == 0 {
		return -1
	}
	return all[dice.IntN(len(all))]
}

// TestLaddersByHand: V5 and V6 of ladders that Build did not make.
func TestLaddersByHand(t *testing.T) {
	dice := rand.New(rand.NewPCG(23, 4))
	for range 3000 {
		l := byHand(dice)
		for from := range l.Rank {
			for to := range l.Rank {
				want := climbByWords(l, from, to)
				x, rungs, e := ladder.Climb(l, from, to)
				if want == never {
					if x != 0 || rungs != nil || e != api.ErrReach {
						t.Fatalf("V5: %v, from %d to %d: %d, %v, %d", l, from, to, x, rungs, e)
					}
					continue
				}
				if x != want || e != api.OK {
					t.Fatalf("V5: %v, from %d to %d: %d, %d, want %d", l, from, to, x, e, want)
				}
				goodClimb(t, l, from, to, x, rungs)
			}
		}
		var rungs []int
		for range dice.IntN(4) {
			if len(l.Rungs) > 0 {
				rungs = append(rungs, dice.IntN(len(l.Rungs)))
			}
		}
		if places, e := ladder.Unfold(l, rungs); !slices.Equal(places, unfoldByWords(l, rungs...)) || e != api.OK {
			t.Fatalf("V6: %v, %v: %v, %d", l, rungs, places, e)
		}
	}
}

// TestTheLastRungCounts: V5: an earlier rung of the pair, though lighter, is no part of a way; nor is one that goes down ahead of one that goes up.
func TestTheLastRungCounts(t *testing.T) {
	l := api.Ladder{Kind: api.KindSum, Rank: []int{0, 1, 2}, Rungs: []api.Rung{plain(0, 1, 1, 0), plain(0, 1, 8, 1), plain(2, 0, 3, 2)}}
	for _, c := range []struct {
		from, to int
		label    uint64
		e        api.Errno
	}{{0, 1, 8, api.OK}, {2, 0, 3, api.OK}, {2, 1, 0, api.ErrReach}, {1, 0, 0, api.ErrReach}} {
		if x, _, e := ladder.Climb(l, c.from, c.to); x != c.label || e != c.e {
			t.Errorf("V5: from %d to %d: %d, %d, want %d, %d", c.from, c.to, x, e, c.label, c.e)
		}
	}
}

// TestGreatestLabel: V5: up all vertices and down again, each rung as heavy as may be.
func TestGreatestLabel(t *testing.T) {
	n := api.MaxLadder
	l := api.Ladder{Kind: api.KindSum, Rank: make([]int, n)}
	for v := range n {
		l.Rank[v] = min(2*v, 2*(n-1-v)+1) // up to the middle, and down
	}
	for v := range n - 1 {
		l.Rungs = append(l.Rungs, plain(v, v+1, 1<<51, v))
	}
	want := uint64(n-1) << 51
	if x, way, e := ladder.Climb(l, 0, n-1); x != want || len(way) != n-1 || e != api.OK {
		t.Errorf("V5: %d, %d rungs, %d, want %d", x, len(way), e, want)
	}
}
