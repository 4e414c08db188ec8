package ladder

import (
	"wayfare/api"
	"wayfare/terms"
)

// mostWeight is the greatest weight of a rung: a way over a ladder has at most twice MaxLadder rungs, so no label wraps.
const mostWeight = 1 << 51

// sound tells what is wrong with the form of a ladder.
func sound(l api.Ladder) api.Errno {
	if e := terms.WayKind(l.Kind); e != api.OK {
		return e
	}
	if len(l.Rank) > api.MaxLadder || len(l.Rungs) > api.MaxRungs {
		return api.ErrSize
	}
	if !isOrder(l.Rank) {
		return api.ErrOrder
	}
	for i := range l.Rungs {
		if !isSound(l, i) {
			return api.ErrProof
		}
	}
	return api.OK
}

// isSound tells whether a rung is sound in form, if all earlier ones are.
func isSound(l api.Ladder, i int) bool {
	r := l.Rungs[i]
	if !isVertex(l, r.From) || !isVertex(l, r.To) || r.From == r.To || r.Weight > mostWeight {
		return false
	}
	if r.By != none {
		return r.By >= 0 && r.By < api.MaxEdges && r.Via == none && r.Low == none && r.High == none
	}
	if !isVertex(l, r.Via) || l.Rank[r.Via] >= min(l.Rank[r.From], l.Rank[r.To]) {
		return false
	}
	if r.Low < 0 || r.Low >= i || r.High < 0 || r.High >= i {
		return false
	}
	low, high := l.Rungs[r.Low], l.Rungs[r.High]
	return low.From == r.From && low.To == r.Via && high.From == r.Via && high.To == r.To &&
		r.Weight == terms.Join(l.Kind, low.Weight, high.Weight)
}

func isVertex(l api.Ladder, v int) bool {
	return v >= 0 && v < len(l.Rank)
}
