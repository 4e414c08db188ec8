package ring

import "wayfare/api"

// layout is a ring's shape, asked where its things stand.
type layout api.Ring

const (
	aheadOfSlots = 2 // the tail and the head
	inSlot       = 3 // a turn, a key, a load
)

// check tells ErrShape of numbers that may not be.
func (l layout) check() api.Errno {
	if l.Cap < 2 || l.Cap > api.MaxCap {
		return api.ErrShape
	}
	if l.Base < 0 || l.Base > api.MaxCells-l.cells() { // not as a sum, which a great Base would wrap
		return api.ErrShape
	}
	return api.OK
}

// checkCells tells ErrShape, or ErrList of an arena's cells that end ahead of the ring's last one.
func (l layout) checkCells(cells []uint64) api.Errno {
	if e := l.check(); e != api.OK {
		return e
	}
	if len(cells) < l.Base+l.cells() {
		return api.ErrList
	}
	return api.OK
}

func (l layout) cells() int {
	return aheadOfSlots + inSlot*l.Cap
}

func (l layout) tailCell() int {
	return l.Base
}

func (l layout) headCell() int {
	return l.Base + 1
}

// slot tells the slot of a place.
func (l layout) slot(place uint64) int {
	return int(place % uint64(l.Cap))
}

func (l layout) turnCell(slot int) int {
	return l.Base + aheadOfSlots + inSlot*slot
}

func (l layout) keyCell(slot int) int {
	return l.turnCell(slot) + 1
}

func (l layout) loadCell(slot int) int {
	return l.turnCell(slot) + 2
}

// task tells what stands in a slot.
func (l layout) task(cells []uint64, slot int) api.Task {
	return api.Task{Key: cells[l.keyCell(slot)], Load: cells[l.loadCell(slot)]}
}
