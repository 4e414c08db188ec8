package lane

import (
	"wayfare/api"
	"wayfare/heap"
)

// layout is a lane's shape, asked where its things stand.
type layout api.Lane

const aheadOfHeap = 2 // the lock and the top

// check tells ErrShape of numbers that may not be.
func (l layout) check() api.Errno {
	if l.Base < 0 || l.Base > api.MaxCells { // looked at ahead of the heap's Base, which a great one would wrap
		return api.ErrShape
	}
	_, e := heap.Cells(l.heap())
	return e
}

// checkCells tells ErrShape, or ErrList of an arena's cells that end ahead of the lane's last one.
func (l layout) checkCells(cells []uint64) api.Errno {
	if e := l.check(); e != api.OK {
		return e
	}
	if len(cells) < l.Base+l.cells() {
		return api.ErrList
	}
	return api.OK
}

// cells tells how many there are, of a shape that may be.
func (l layout) cells() int {
	inHeap, _ := heap.Cells(l.heap())
	return aheadOfHeap + inHeap
}

func (l layout) heap() api.Heap {
	return api.Heap{Base: l.Base + aheadOfHeap, Cap: l.Cap, Arity: l.Arity}
}

func (l layout) lockCell() int {
	return l.Base
}

func (l layout) topCell() int {
	return l.Base + 1
}

// sizeCell and firstKeyCell are the heap's, which are read to publish.
func (l layout) sizeCell() int {
	return l.Base + aheadOfHeap
}

func (l layout) firstKeyCell() int {
	return l.Base + aheadOfHeap + 1
}
