package steal

import "wayfare/api"

// layout is the shape of a pool of deques, asked where its things stand.
type layout api.Steal

const (
	aheadOfSlots = 2 // the top and the bottom
	inSlot       = 2 // a key and a load
)

// check tells ErrShape of numbers that may not be.
func (l layout) check() api.Errno {
	if l.Workers < 1 || l.Workers > api.MaxWorkers || l.Cap < 1 || l.Cap > api.MaxCap || l.Tries < 1 || l.Tries > api.MaxTries {
		return api.ErrShape
	}
	if l.Base < 0 || l.Base > api.MaxCells-l.cells() { // not as a sum, which a great Base would wrap
		return api.ErrShape
	}
	return api.OK
}

func (l layout) cells() int {
	return l.Workers * l.inDeque()
}

func (l layout) inDeque() int {
	return aheadOfSlots + inSlot*l.Cap
}

func (l layout) topCell(who int) int {
	return l.Base + who*l.inDeque()
}

func (l layout) bottomCell(who int) int {
	return l.topCell(who) + 1
}

// keyCell tells where the key of an index stands in a worker's deque.
func (l layout) keyCell(who int, index uint64) int {
	slot := int(index % uint64(l.Cap))
	return l.topCell(who) + aheadOfSlots + inSlot*slot
}

func (l layout) loadCell(who int, index uint64) int {
	return l.keyCell(who, index) + 1
}
