package ladder_test

import (
	"math/rand/v2"
	"testing"

	"wayfare/api"
	"wayfare/ladder"
	"wayfare/route"
	"wayfare/seek"
	"wayfare/strong"
)

// TestAllSearchesAgree: P0.17 and P0.20: the most urgent first, by rounds, from both ends, by landmarks and over a ladder of any order, the label is one; and two vertices are in one part just if there is a way from each to the other.
func TestAllSearchesAgree(t *testing.T) {
	someOf(300, 5, func(dice *rand.Rand, g api.Graph) {
		at, _ := seek.Far(g, dice.IntN(g.N), 1+dice.IntN(3))
		marks, _ := seek.Mark(g, at)
		parts, _ := strong.Parts(g)
		easy, _ := ladder.Easy(g)
		for _, kind := range kinds {
			ladders := []api.Ladder{made(t, g, kind, easy...), made(t, g, kind, dice.Perm(g.N)...)}
			way := func(from, to int) bool { return labelsFrom(g, kind, from)[to] != never }
			for from := range g.N {
				labels, _, _ := route.Rounds(g, kind, []api.Start{{Vertex: from}})
				for to, label := range labels {
					if label != labelsFrom(g, kind, from)[to] {
						t.Fatalf("P0.17: %v, kind %d, from %d: %v", g, kind, from, labels)
					}
					all := []uint64{told(seek.Both(g, kind, from, to))}
					if kind == api.KindSum {
						all = append(all, told(seek.Guided(g, marks, from, to)))
					}
					for _, l := range ladders {
						all = append(all, climbed(ladder.Climb(l, from, to)))
					}
					for i, x := range all {
						if x != label {
							t.Fatalf("P0.20: %v, kind %d, from %d to %d: search %d tells %d, want %d", g, kind, from, to, i, x, label)
						}
					}
					if (parts[from] == parts[to]) != (way(from, to) && way(to, from)) {
						t.Fatalf("P0.20: %v: parts %v, from %d to %d", g, parts, from, to)
					}
				}
			}
		}
	})
}

// told is the label that a search tells; Never, where there is no way.
func told(w api.Way, e api.Errno) uint64 {
	if e == api.ErrReach {
		return never
	}
	return w.Label
}

func climbed(label uint64, _ []int, e api.Errno) uint64 {
	return told(api.Way{Label: label}, e)
}
