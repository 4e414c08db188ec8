package voucher

import (
	"wayfare/api"
	"wayfare/route"
	"wayfare/terms"
)

// Check tells whether a voucher holds; if not, at which vertex.
func Check(g api.Graph, kind int, starts []api.Start, v api.Voucher) (api.Errno, int) {
	if e := terms.Search(g, kind, starts); e != api.OK {
		return e, 0
	}
	if len(v.Labels) != g.N || len(v.By) != g.N || len(v.Depth) != g.N {
		return api.ErrList, 0
	}
	l := look{Voucher: v, found: make([]findings, g.N)}
	l.seeStarts(starts)
	l.seeEdges(g, kind)
	for at := range g.N {
		if !l.holds(at) {
			return api.ErrProof, at
		}
	}
	return api.OK, 0
}

// findings are what starts and edges say of a vertex.
type findings struct {
	start uint64 // the least label of the starts at it
	above bool   // its label is above what comes along an edge
	tight bool   // the edge of By gives it its label and its depth
}

// look is a voucher that is looked over.
type look struct {
	api.Voucher
	found []findings
}

func (l *look) seeStarts(starts []api.Start) {
	for at := range l.found {
		l.found[at].start = api.Never
	}
	for _, s := range starts {
		f := &l.found[s.Vertex]
		f.start = min(f.start, s.Label)
	}
}

func (l *look) seeEdges(g api.Graph, kind int) {
	for from := range g.N {
		if l.Labels[from] == api.Never {
			continue
		}
		for place := g.Start[from]; place < g.Start[from+1]; place++ {
			to := g.To[place]
			label, _ := route.Extend(kind, l.Labels[from], g.Weight[place])
			if l.Labels[to] > label {
				l.found[to].above = true
			}
			if l.By[to] == place && l.Labels[to] == label && isNext(l.Depth[from], l.Depth[to]) {
				l.found[to].tight = true
			}
		}
	}
}

// isNext tells whether a depth is the one behind another that may be one; the sum might wrap round.
func isNext(ahead, depth int) bool {
	return ahead >= 0 && depth >= 1 && depth-1 == ahead
}

// holds tells whether all that a voucher must say of a vertex is so.
func (l *look) holds(at int) bool {
	f := l.found[at]
	switch {
	case l.Labels[at] > f.start || f.above:
		return false
	case l.By[at] == noEdge:
		return l.Depth[at] == 0 && l.Labels[at] == f.start
	}
	return f.tight
}
