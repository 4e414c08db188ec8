package heap

import "wayfare/api"

// layout is a heap's shape, asked where its things stand.
type layout api.Heap

// check tells ErrShape of numbers that may not be.
func (l layout) check() api.Errno {
	if l.Cap < 1 || l.Cap > api.MaxCap || l.Arity < 2 || l.Arity > api.MaxArity {
		return api.ErrShape
	}
	if l.Base < 0 || l.Base > api.MaxCells-l.cells() { // not as a sum, which a great Base would wrap
		return api.ErrShape
	}
	return api.OK
}

// checkCells tells ErrShape, or ErrList of an arena's cells that end ahead of the heap's last one.
func (l layout) checkCells(cells []uint64) api.Errno {
	if e := l.check(); e != api.OK {
		return e
	}
	if len(cells) < l.Base+l.cells() {
		return api.ErrList
	}
	return api.OK
}

func (l layout) cells() int {
	return 1 + 2*l.Cap
}

func (l layout) sizeCell() int {
	return l.Base
}

func (l layout) keyCell(place int) int {
	return l.Base + 1 + 2*place
}

func (l layout) loadCell(place int) int {
	return l.Base + 2 + 2*place
}

// above tells the place above one that is not the first.
func (l layout) above(place int) int {
	return (place - 1) / l.Arity
}

// below tells the first and the last of the places below one, whether or not the heap goes that far.
func (l layout) below(place int) (first, last int) {
	return l.Arity*place + 1, l.Arity*place + l.Arity
}

// count tells how many tasks a size cell stands for: anyone may have written it.
func (l layout) count(size uint64) int {
	return int(min(size, uint64(l.Cap)))
}

// task tells what stands at a place.
func (l layout) task(cells []uint64, place int) api.Task {
	return api.Task{Key: cells[l.keyCell(place)], Load: cells[l.loadCell(place)]}
}

// put lets a task stand at a place.
func (l layout) put(cells []uint64, place int, t api.Task) {
	cells[l.keyCell(place)], cells[l.loadCell(place)] = t.Key, t.Load
}
