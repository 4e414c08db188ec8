package ladder

import (
	"slices"

	"wayfare/api"
	"wayfare/terms"
)

// works is a ladder that is being made.
type works struct {
	kind      int
	rungs     []api.Rung
	present   map[pair]int // by pair: the number of its rung
	ins, outs []set        // by vertex: from where, and to where, rungs are present
	weights   [][]uint64   // by vertex and vertex: the present rung's, or Never; so the many pairs that get no new rung need no look into the map
}

// rungsOf are the rungs that come of taking the vertices of a graph out in an order.
func rungsOf(g api.Graph, kind int, order []int) ([]api.Rung, api.Errno) {
	w := &works{kind: kind, present: map[pair]int{}, ins: newSets(g.N), outs: newSets(g.N)}
	for u := range g.N {
		w.weights = append(w.weights, slices.Repeat([]uint64{api.Never}, g.N))
		w.begin(g, u)
	}
	for _, v := range order {
		if !w.takeOut(v) {
			return nil, api.ErrMany
		}
	}
	return w.rungs, api.OK
}

// begin puts the rungs that are edges from u; there are never too many of these.
func (w *works) begin(g api.Graph, u int) {
	lightest := make([]int, g.N) // by vertex to which edges go: the place of one
	for place := g.Start[u]; place < g.Start[u+1]; place++ {
		v := g.To[place]
		if v == u {
			continue
		}
		if !w.outs[u].has(v) || w.weight(g, place) < w.weight(g, lightest[v]) {
			lightest[v] = place
		}
		w.outs[u].add(v)
	}
	for _, v := range w.outs[u].list() {
		w.put(api.Rung{From: u, To: v, Weight: w.weight(g, lightest[v]), By: lightest[v], Via: none, Low: none, High: none})
	}
}

// weight is what an edge weighs in this kind.
func (w *works) weight(g api.Graph, place int) uint64 {
	if w.kind == api.KindHops {
		return 1
	}
	return g.Weight[place]
}

// put puts a rung behind all others; it is the present one of its pair.
func (w *works) put(r api.Rung) {
	w.present[pair{r.From, r.To}] = len(w.rungs)
	w.rungs = append(w.rungs, r)
	w.outs[r.From].add(r.To)
	w.ins[r.To].add(r.From)
	w.weights[r.From][r.To] = r.Weight
}

// takeOut takes a vertex out; it tells false, if that would make too many rungs.
func (w *works) takeOut(v int) bool {
	from, to := w.ins[v].list(), w.outs[v].list()
	for _, u := range from {
		for _, x := range to {
			weight := terms.Join(w.kind, w.weights[u][v], w.weights[v][x])
			if u == x || w.weights[u][x] <= weight {
				continue
			}
			if len(w.rungs) == api.MaxRungs {
				return false
			}
			w.put(api.Rung{From: u, To: x, Weight: weight, By: none, Via: v, Low: w.present[pair{u, v}], High: w.present[pair{v, x}]})
		}
	}
	for _, u := range from {
		delete(w.present, pair{u, v})
		w.outs[u].remove(v)
	}
	for _, x := range to {
		delete(w.present, pair{v, x})
		w.ins[x].remove(v)
	}
	return true
}
