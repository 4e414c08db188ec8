package multi

import (
	"wayfare/api"
	"wayfare/lane"
)

// layout is the shape of a pool of lanes, asked where its things stand.
type layout api.Multi

// check tells ErrShape of numbers that may not be.
func (l layout) check() api.Errno {
	if !within(l.Workers, 1, api.MaxWorkers) || !within(l.Per, 1, api.MaxPer) {
		return api.ErrShape
	}
	if !within(l.In, 0, api.MaxBuffer) || !within(l.Out, 1, api.MaxBuffer) {
		return api.ErrShape
	}
	if !within(l.Stick, 1, api.MaxStick) || !within(l.Tries, 1, api.MaxTries) {
		return api.ErrShape
	}
	if _, e := lane.Cells(l.lane(0)); e != api.OK {
		return e
	}
	if l.Base > api.MaxCells-l.cells() { // not as a sum, which a great Base would wrap
		return api.ErrShape
	}
	return api.OK
}

func within(n, least, most int) bool {
	return least <= n && n <= most
}

func (l layout) lanes() int {
	return l.Workers * l.Per
}

func (l layout) cells() int {
	return l.lanes() * l.laneCells()
}

// laneCells tells how many cells a lane has, of a shape that may be.
func (l layout) laneCells() int {
	n, _ := lane.Cells(api.Lane{Cap: l.Cap, Arity: l.Arity})
	return n
}

func (l layout) lane(q int) api.Lane {
	return api.Lane{Base: l.Base + q*l.laneCells(), Cap: l.Cap, Arity: l.Arity}
}

// topCell tells where a lane's top is published.
func (l layout) topCell(q int) int {
	return l.lane(q).Base + 1
}
