package ladder

import (
	"slices"

	"wayfare/api"
	"wayfare/terms"
)

// Climb tells the least label from one vertex to another, and rungs on a way that has it.
func Climb(l api.Ladder, from, to int) (uint64, []int, api.Errno) {
	if e := sound(l); e != api.OK {
		return 0, nil, e
	}
	if !isVertex(l, from) || !isVertex(l, to) {
		return 0, nil, api.ErrVertex
	}
	up, down := rises(l)
	out, back := climb(l, up, from), climb(l, down, to)
	best, top := uint64(api.Never), none
	for _, v := range turned(l.Rank) {
		if out.labels[v] == api.Never || back.labels[v] == api.Never {
			continue
		}
		if label := terms.Join(l.Kind, out.labels[v], back.labels[v]); label < best {
			best, top = label, v
		}
	}
	if top == none {
		return 0, nil, api.ErrReach
	}
	way := out.chain(top)
	slices.Reverse(way)
	return best, append(way, back.chain(top)...), api.OK
}

// rise is a last rung as one climbs it: to a vertex of greater Rank.
type rise struct {
	to, rung int
}

// rises are, by the vertex of lesser Rank, the last rungs that go up from it, and those that come down to it.
func rises(l api.Ladder) (up, down [][]rise) {
	n := len(l.Rank)
	up, down = make([][]rise, n), make([][]rise, n)
	known := newSets(n) // from where to where a later rung goes
	for i, r := range slices.Backward(l.Rungs) {
		switch {
		case known[r.From].has(r.To):
		case l.Rank[r.From] < l.Rank[r.To]:
			up[r.From] = append(up[r.From], rise{r.To, i})
		default:
			down[r.To] = append(down[r.To], rise{r.From, i})
		}
		known[r.From].add(r.To)
	}
	return up, down
}

// climbed is how far one has climbed from a vertex.
type climbed struct {
	labels []uint64
	from   []int // by vertex: from where one came to it
	by     []int // and by which rung
}

// climb goes over the vertices by rising Rank: when one comes, all from which one climbs to it have come.
func climb(l api.Ladder, rises [][]rise, first int) climbed {
	n := len(l.Rank)
	c := climbed{labels: slices.Repeat([]uint64{api.Never}, n), from: slices.Repeat([]int{none}, n), by: slices.Repeat([]int{none}, n)}
	c.labels[first] = 0
	for _, v := range turned(l.Rank)[l.Rank[first]:] {
		if c.labels[v] == api.Never {
			continue
		}
		for _, r := range rises[v] {
			if label := terms.Join(l.Kind, c.labels[v], l.Rungs[r.rung].Weight); label < c.labels[r.to] {
				c.labels[r.to], c.from[r.to], c.by[r.to] = label, v, r.rung
			}
		}
	}
	return c
}

// chain are the rungs by which one came to a vertex, the last first.
func (c climbed) chain(v int) []int {
	var rungs []int
	for ; c.by[v] != none; v = c.from[v] {
		rungs = append(rungs, c.by[v])
	}
	return rungs
}
