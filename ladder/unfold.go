package ladder

import "wayfare/api"

// tooMany is more edges than an Unfold tells, however many they are: each rung may stand for twice as many as those it goes over.
const tooMany = api.MaxEdges + 1

// Unfold tells the edges of the graph that rungs stand for.
func Unfold(l api.Ladder, rungs []int) ([]int, api.Errno) {
	if e := sound(l); e != api.OK {
		return nil, e
	}
	for _, i := range rungs {
		if i < 0 || i >= len(l.Rungs) {
			return nil, api.ErrPlace
		}
	}
	n := 0
	edges := counts(l)
	for _, i := range rungs {
		n = min(n+edges[i], tooMany)
	}
	if n == tooMany {
		return nil, api.ErrMany
	}
	places := make([]int, 0, n)
	for _, i := range rungs {
		places = unfolded(l, i, places)
	}
	return places, api.OK
}

// counts tells of each rung how many edges it stands for.
func counts(l api.Ladder) []int {
	edges := make([]int, len(l.Rungs))
	for i, r := range l.Rungs {
		edges[i] = 1
		if r.By == none {
			edges[i] = min(edges[r.Low]+edges[r.High], tooMany)
		}
	}
	return edges
}

// unfolded puts the places that a rung stands for behind others. It goes no deeper than there are vertices, since each Via has a lesser Rank.
func unfolded(l api.Ladder, i int, places []int) []int {
	r := l.Rungs[i]
	if r.By != none {
		return append(places, r.By)
	}
	return unfolded(l, r.High, unfolded(l, r.Low, places))
}
