package ladder

import "wayfare/api"

// Easy tells an order in which little comes in the place of what is taken out.
func Easy(g api.Graph) ([]int, api.Errno) {
	if e := lookAtGraph(g); e != api.OK {
		return nil, e
	}
	ins, outs := neighbours(g)
	left := newSet(g.N)
	for v := range g.N {
		left.add(v)
	}
	order := make([]int, 0, g.N)
	for range g.N {
		v := easiest(left.list(), ins, outs)
		order = append(order, v)
		left.remove(v)
		bridge(v, ins, outs)
	}
	return order, api.OK
}

// neighbours are, by vertex, those from which edges go to it, and those to which edges go from it, itself left out.
func neighbours(g api.Graph) (ins, outs []set) {
	ins, outs = newSets(g.N), newSets(g.N)
	for u := range g.N {
		for _, v := range g.To[g.Start[u]:g.Start[u+1]] {
			if u != v {
				outs[u].add(v)
				ins[v].add(u)
			}
		}
	}
	return ins, outs
}

// easiest is, of vertices that rise, the first one over which the fewest lead to the fewest.
func easiest(left []int, ins, outs []set) int {
	best, least := none, 0
	for _, v := range left {
		if n := ins[v].size() * outs[v].size(); best == none || n < least {
			best, least = v, n
		}
	}
	return best
}

// bridge takes a vertex out of its neighbours' sets, and joins those that it lay between.
func bridge(v int, ins, outs []set) {
	for _, u := range ins[v].list() {
		outs[u].addAll(outs[v])
		outs[u].remove(u)
		outs[u].remove(v)
	}
	for _, w := range outs[v].list() {
		ins[w].addAll(ins[v])
		ins[w].remove(w)
		ins[w].remove(v)
	}
}
