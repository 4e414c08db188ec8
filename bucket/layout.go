package bucket

import "wayfare/api"

// layout is the shape of a pool of stacks, asked where its things stand.
type layout api.Bucket

const (
	aheadOfPlaces = 2 // the lock and the size
	inPlace       = 2 // a key and a load
)

// check tells ErrShape of numbers that may not be.
func (l layout) check() api.Errno {
	if l.Workers < 1 || l.Workers > api.MaxWorkers || l.Slots < 1 || l.Slots > api.MaxSlots {
		return api.ErrShape
	}
	if l.Cap < 1 || l.Cap > api.MaxCap || l.Width < 1 {
		return api.ErrShape
	}
	if l.Base < 0 || l.Base > api.MaxCells-l.cells() { // not as a sum, which a great Base would wrap
		return api.ErrShape
	}
	return api.OK
}

func (l layout) cells() int {
	return l.Slots * l.inStack()
}

func (l layout) inStack() int {
	return aheadOfPlaces + inPlace*l.Cap
}

// stackOf tells the stack of a task.
func (l layout) stackOf(t api.Task) int {
	return int(t.Key / l.Width % uint64(l.Slots))
}

func (l layout) lockCell(stack int) int {
	return l.Base + stack*l.inStack()
}

func (l layout) sizeCell(stack int) int {
	return l.lockCell(stack) + 1
}

func (l layout) keyCell(stack, place int) int {
	return l.lockCell(stack) + aheadOfPlaces + inPlace*place
}

func (l layout) loadCell(stack, place int) int {
	return l.keyCell(stack, place) + 1
}

// count tells how many tasks a size cell stands for: anyone may have written it.
func (l layout) count(size uint64) int {
	return int(min(size, uint64(l.Cap)))
}
