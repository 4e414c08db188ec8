package ladder_test

import (
	"math"
	"slices"
	"testing"

	"wayfare/api"
	"wayfare/ladder"
)

// unsound are changes of the example's ladder of the order 1 0 2 3, each with what it makes of it.
func unsound() map[string]struct {
	turn func(l *api.Ladder)
	e    api.Errno
} {
	type change = struct {
		turn func(l *api.Ladder)
		e    api.Errno
	}
	rung := func(i int, turn func(r *api.Rung), e api.Errno) change {
		return change{func(l *api.Ladder) { turn(&l.Rungs[i]) }, e}
	}
	return map[string]change{
		"as it is":                 {func(l *api.Ladder) {}, api.OK},
		"no rungs":                 {func(l *api.Ladder) { l.Rungs = nil }, api.OK},
		"kind 0":                   {func(l *api.Ladder) { l.Kind = 0; l.Rank = make([]int, api.MaxLadder+1) }, api.ErrKind},
		"kind label":               {func(l *api.Ladder) { l.Kind = api.KindLabel; l.Rank = nil }, api.ErrKind},
		"the least int as kind":    {func(l *api.Ladder) { l.Kind = math.MinInt; l.Rungs[0].To = 0 }, api.ErrKind},
		"too many vertices":        {func(l *api.Ladder) { l.Rank = make([]int, api.MaxLadder+1); l.Rungs[0].To = 0 }, api.ErrSize},
		"too many rungs":           {func(l *api.Ladder) { l.Rungs = make([]api.Rung, api.MaxRungs+1); l.Rank[0] = 0 }, api.ErrSize},
		"as many wrong as may be":  {func(l *api.Ladder) { l.Rungs = make([]api.Rung, api.MaxRungs) }, api.ErrProof},
		"as many right as may be":  {func(l *api.Ladder) { l.Rungs = slices.Repeat([]api.Rung{plain(0, 1, 1, 0)}, api.MaxRungs) }, api.OK},
		"a rank twice":             {func(l *api.Ladder) { l.Rank[0] = 0; l.Rungs[0].To = 0 }, api.ErrOrder},
		"a rank below 0":           {func(l *api.Ladder) { l.Rank[0] = -1 }, api.ErrOrder},
		"a rank above":             {func(l *api.Ladder) { l.Rank[3] = 4 }, api.ErrOrder},
		"the greatest int as rank": {func(l *api.Ladder) { l.Rank[3] = math.MaxInt }, api.ErrOrder},
		"a vertex too few":         {func(l *api.Ladder) { l.Rank = []int{1, 0, 2} }, api.ErrProof},
		"no vertices":              {func(l *api.Ladder) { l.Rank = nil }, api.ErrProof},
		"From is To":               rung(4, func(r *api.Rung) { r.To = 2 }, api.ErrProof),
		"From below 0":             rung(4, func(r *api.Rung) { r.From = -1 }, api.ErrProof),
		"From above":               rung(4, func(r *api.Rung) { r.From = 4 }, api.ErrProof),
		"To below 0":               rung(4, func(r *api.Rung) { r.To = math.MinInt }, api.ErrProof),
		"To above":                 rung(4, func(r *api.Rung) { r.To = 4 }, api.ErrProof),
		"the greatest weight":      rung(4, func(r *api.Rung) { r.Weight = 1 << 51 }, api.OK),
		"above that":               rung(4, func(r *api.Rung) { r.Weight = 1<<51 + 1 }, api.ErrProof),
		"the greatest word":        rung(4, func(r *api.Rung) { r.Weight = math.MaxUint64 }, api.ErrProof),
		"another edge":             rung(4, func(r *api.Rung) { r.By = 3 }, api.OK),
		"the greatest place":       rung(4, func(r *api.Rung) { r.By = api.MaxEdges - 1 }, api.OK),
		"above that place":         rung(4, func(r *api.Rung) { r.By = api.MaxEdges }, api.ErrProof),
		"By below 0":               rung(4, func(r *api.Rung) { r.By = -2 }, api.ErrProof),
		"neither edge nor by way":  rung(4, func(r *api.Rung) { r.By = -1 }, api.ErrProof),
		"an edge with Via":         rung(4, func(r *api.Rung) { r.Via = 1 }, api.ErrProof),
		"an edge with Low":         rung(4, func(r *api.Rung) { r.Low = 0 }, api.ErrProof),
		"an edge with High":        rung(4, func(r *api.Rung) { r.High = 0 }, api.ErrProof),
		"an edge with Low below":   rung(4, func(r *api.Rung) { r.Low = -2 }, api.ErrProof),
		"by way, and an edge":      rung(7, func(r *api.Rung) { r.By = 0 }, api.ErrProof),
		"Via below 0":              rung(7, func(r *api.Rung) { r.Via = -1 }, api.ErrProof),
		"Via above":                rung(7, func(r *api.Rung) { r.Via = 4 }, api.ErrProof),
		"Via is From":              rung(7, func(r *api.Rung) { r.Via = 0 }, api.ErrProof),
		"Low below 0":              rung(7, func(r *api.Rung) { r.Low = -1 }, api.ErrProof),
		"Low is itself":            rung(7, func(r *api.Rung) { r.Low = 7 }, api.ErrProof),
		"Low comes later":          rung(7, func(r *api.Rung) { r.Low = 8 }, api.ErrProof),
		"Low above":                rung(7, func(r *api.Rung) { r.Low = math.MaxInt }, api.ErrProof),
		"Low leads elsewhere":      rung(7, func(r *api.Rung) { r.Low = 6; r.Weight = 3 }, api.ErrProof),
		"Low comes from elsewhere": {func(l *api.Ladder) {
			l.Rungs = []api.Rung{plain(0, 1, 1, 0), plain(2, 1, 1, 0), plain(1, 3, 1, 0), over(0, 3, 2, 1, 1, 2)}
		}, api.ErrProof},
		"High below 0":         rung(7, func(r *api.Rung) { r.High = math.MinInt }, api.ErrProof),
		"High is itself":       rung(7, func(r *api.Rung) { r.High = 7 }, api.ErrProof),
		"High above":           rung(7, func(r *api.Rung) { r.High = 9 }, api.ErrProof),
		"High leads elsewhere": rung(7, func(r *api.Rung) { r.High = 2 }, api.ErrProof),
		"High from elsewhere":  rung(7, func(r *api.Rung) { r.High = 4 }, api.ErrProof),
		"a weight one more":    rung(7, func(r *api.Rung) { r.Weight++ }, api.ErrProof),
		"a weight one less":    rung(7, func(r *api.Rung) { r.Weight-- }, api.ErrProof),
		"of another kind":      {func(l *api.Ladder) { l.Kind = api.KindMax }, api.ErrProof},
		"hops are sums":        {func(l *api.Ladder) { l.Kind = api.KindHops }, api.OK},
		"Via above From":       {func(l *api.Ladder) { l.Rank, l.Rungs = []int{0, 1, 2, 3}, l.Rungs[:7] }, api.ErrProof},
		"Via above To":         {func(l *api.Ladder) { l.Rank, l.Rungs = []int{3, 2, 1, 0}, l.Rungs[:7] }, api.ErrProof},
		"sums above the greatest weight": {func(l *api.Ladder) {
			l.Rungs = []api.Rung{plain(0, 1, 1<<51, 0), plain(1, 2, 1<<51, 0), over(0, 2, 1<<52, 1, 0, 1)}
		}, api.ErrProof},
		"the greatest weight of two": {func(l *api.Ladder) {
			l.Rungs = []api.Rung{plain(0, 1, 1<<50, 0), plain(1, 2, 1<<50, 0), over(0, 2, 1<<51, 1, 0, 1)}
		}, api.OK},
	}
}

func TestSoundInForm(t *testing.T) {
	for name, c := range unsound() {
		l := made(t, example(), api.KindSum, 1, 0, 2, 3)
		c.turn(&l)
		x, way, e := ladder.Climb(l, 0, 0)
		if len(l.Rank) == 0 && e == api.ErrVertex {
			e = api.OK
		}
		if x != 0 || len(way) != 0 || e != c.e {
			t.Errorf("V4: %s: Climb: %d, %v, %d, want %d", name, x, way, e, c.e)
		}
		if places, e := ladder.Unfold(l, nil); len(places) != 0 || e != c.e {
			t.Errorf("V4: %s: Unfold: %d, want %d", name, e, c.e)
		}
		if c.e == api.OK {
			continue
		}
		if x, way, e := ladder.Climb(l, -1, 9); x != 0 || way != nil || e != c.e {
			t.Errorf("V5: %s: the form ahead of vertices: %d, want %d", name, e, c.e)
		}
		if places, e := ladder.Unfold(l, []int{-1}); places != nil || e != c.e {
			t.Errorf("V6: %s: the form ahead of places: %d, want %d", name, e, c.e)
		}
	}
	one := api.Ladder{Kind: api.KindSum, Rank: []int{0}}
	if x, way, e := ladder.Climb(one, 0, 0); x != 0 || len(way) != 0 || e != api.OK {
		t.Errorf("V5: one vertex: %d, %v, %d", x, way, e)
	}
}

// doubling is a ladder in which a rung between two vertices, the lesser of which is m, stands for 2^m edges, all alike.
func doubling(kind, n int, weight uint64) (l api.Ladder, number func(from, to int) int) {
	l.Kind = kind
	at := map[[2]int]int{}
	for m := range n {
		l.Rank = append(l.Rank, m)
		for other := m + 1; other < n; other++ {
			for _, p := range [][2]int{{m, other}, {other, m}} {
				at[p] = len(l.Rungs)
				if m == 0 {
					l.Rungs = append(l.Rungs, plain(p[0], p[1], weight, 7))
					continue
				}
				low, high := at[[2]int{p[0], m - 1}], at[[2]int{m - 1, p[1]}]
				l.Rungs = append(l.Rungs, over(p[0], p[1], joined(kind, l.Rungs[low].Weight, l.Rungs[high].Weight), m-1, low, high))
			}
		}
	}
	return l, func(from, to int) int { return at[[2]int{from, to}] }
}

// TestAsManyEdgesAsMayBe: V6: up to that many, and one more; and as many as no number tells.
func TestAsManyEdgesAsMayBe(t *testing.T) {
	l, number := doubling(api.KindMax, 100, 3)
	half, whole, edge := number(21, 99), number(22, 99), number(0, 1)
	for _, c := range []struct {
		rungs []int
		many  int
		e     api.Errno
	}{
		{[]int{half}, api.MaxEdges / 2, api.OK},
		{[]int{whole}, api.MaxEdges, api.OK},
		{[]int{half, half}, api.MaxEdges, api.OK},
		{[]int{whole, edge}, 0, api.ErrMany},
		{[]int{edge, whole}, 0, api.ErrMany},
		{[]int{half, half, edge}, 0, api.ErrMany},
		{[]int{number(23, 24)}, 0, api.ErrMany},
		{[]int{number(63, 64)}, 0, api.ErrMany},
		{[]int{number(64, 65)}, 0, api.ErrMany},
		{[]int{number(98, 99)}, 0, api.ErrMany},
		{[]int{number(98, 99), number(98, 99), edge}, 0, api.ErrMany},
		{[]int{number(98, 99), len(l.Rungs)}, 0, api.ErrPlace},
		{slices.Repeat([]int{edge}, api.MaxEdges), api.MaxEdges, api.OK},
		{slices.Repeat([]int{edge}, api.MaxEdges+1), 0, api.ErrMany},
	} {
		places, e := ladder.Unfold(l, c.rungs)
		if len(places) != c.many || e != c.e || slices.ContainsFunc(places, func(p int) bool { return p != 7 }) {
			t.Errorf("V6: %d rungs: %d edges, %d, want %d, %d", len(c.rungs), len(places), e, c.many, c.e)
		}
	}
	heavy, number := doubling(api.KindSum, 53, 1)
	if x, way, e := ladder.Climb(heavy, 51, 52); x != 1<<51 || e != api.OK || !slices.Equal(way, []int{number(51, 52)}) {
		t.Errorf("V5: %d, %v, %d", x, way, e)
	}
	heavier, _ := doubling(api.KindSum, 54, 1)
	if x, way, e := ladder.Climb(heavier, 0, 0); x != 0 || way != nil || e != api.ErrProof {
		t.Errorf("V4: a weight of 2^52: %d, %v, %d", x, way, e)
	}
}
