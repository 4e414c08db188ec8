package crew

import (
	"slices"

	"wayfare/api"
	"wayfare/terms"
)

// Where the cells stand: the counts, a label a vertex, the pool.
const (
	pendingCell = iota
	doneCell
	faultCell
	firstLabel
)

func labelCell(v int) int {
	return firstLabel + v
}

// poolBase tells where the pool begins: behind the last label.
func poolBase(g api.Graph) int {
	return labelCell(g.N)
}

// Check tells whether a search can be run so.
func Check(g api.Graph, p api.Plan) api.Errno {
	_, e := firstCells(g, p)
	return e
}

// firstCells tells all cells as they are at the start, or why a search cannot be run so.
func firstCells(g api.Graph, p api.Plan) ([]uint64, api.Errno) {
	if e := terms.Search(g, p.Kind, p.Starts); e != api.OK {
		return nil, e
	}
	pool, e := poolOf(g, p)
	if e != api.OK {
		return nil, e
	}
	labels := terms.Started(g.N, p.Starts)
	tasks := tasksOf(labels)
	filled, e := pool.fill(tasks)
	if e != api.OK {
		return nil, e
	}
	return slices.Concat(counts(len(tasks)), labels, filled), api.OK
}

// poolOf is the pool of a plan whose numbers may be.
func poolOf(g api.Graph, p api.Plan) (pool, api.Errno) {
	pool := poolAt(poolBase(g), p)
	if pool == nil || p.Workers < 1 || p.Workers > api.MaxWorkers { // a ring does not ask how many they are
		return nil, api.ErrShape
	}
	cells, e := pool.cells()
	if e != api.OK {
		return nil, e
	}
	if poolBase(g) > api.MaxCells-cells {
		return nil, api.ErrCells
	}
	return pool, api.OK
}

// tasksOf are the tasks at the start, by rising vertex.
func tasksOf(labels []uint64) []api.Task {
	var out []api.Task
	for v, label := range labels {
		if label != api.Never {
			out = append(out, api.Task{Key: label, Load: uint64(v)})
		}
	}
	return out
}

// counts are the cells ahead of the labels, of so many tasks at the start.
func counts(tasks int) []uint64 {
	out := make([]uint64, firstLabel)
	out[pendingCell] = uint64(tasks)
	if tasks == 0 { // nobody will lower the count to 0
		out[doneCell] = 1
	}
	return out
}
