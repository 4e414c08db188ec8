package bucket

import (
	"wayfare/api"
	"wayfare/arena"
)

// The steps of an operation, as h.next names them.
const (
	atRest = iota

	lockForRoom // of an Insert, from here on
	readRoom
	putKey
	putLoad
	grow

	lookForTask // of a Take, from here on
	lockForTask
	readSize
	getKey
	getLoad
	shrink

	free // of both
	stepsInAll
)

// steps tells what each of them does with its access; there is none at rest.
func steps() [stepsInAll]func(*Handle, *arena.Port) {
	return [stepsInAll]func(*Handle, *arena.Port){
		lockForRoom: (*Handle).lockForRoom,
		readRoom:    (*Handle).readRoom,
		putKey:      (*Handle).putKey,
		putLoad:     (*Handle).putLoad,
		grow:        (*Handle).grow,
		lookForTask: (*Handle).lookForTask,
		lockForTask: (*Handle).lockForTask,
		readSize:    (*Handle).readSize,
		getKey:      (*Handle).getKey,
		getLoad:     (*Handle).getLoad,
		shrink:      (*Handle).shrink,
		free:        (*Handle).free,
	}
}

func (h *Handle) lockForRoom(p *arena.Port) {
	if h.lock(p) {
		h.next = readRoom
	}
}

func (h *Handle) readRoom(p *arena.Port) {
	h.size = h.at.count(p.Load(h.at.sizeCell(h.stack)))
	if h.size == h.at.Cap {
		h.next, h.came = free, api.StFull
		return
	}
	h.next = putKey
}

func (h *Handle) putKey(p *arena.Port) {
	p.Store(h.at.keyCell(h.stack, h.size), h.task.Key)
	h.next = putLoad
}

func (h *Handle) putLoad(p *arena.Port) {
	p.Store(h.at.loadCell(h.stack, h.size), h.task.Load)
	h.next = grow
}

func (h *Handle) grow(p *arena.Port) {
	p.Store(h.at.sizeCell(h.stack), uint64(h.size)+1)
	h.inHand = false
	h.next, h.came = free, api.StDone
}

func (h *Handle) lookForTask(p *arena.Port) {
	if p.Load(h.at.sizeCell(h.stack)) == 0 {
		h.goToNext()
		return
	}
	h.next = lockForTask
}

func (h *Handle) lockForTask(p *arena.Port) {
	if !h.lock(p) {
		h.goToNext()
		return
	}
	h.next = readSize
}

func (h *Handle) readSize(p *arena.Port) {
	h.size = h.at.count(p.Load(h.at.sizeCell(h.stack)))
	if h.size == 0 {
		h.next, h.came = free, api.StEmpty
		return
	}
	h.next = getKey
}

func (h *Handle) getKey(p *arena.Port) {
	h.task.Key = p.Load(h.at.keyCell(h.stack, h.size-1))
	h.next = getLoad
}

func (h *Handle) getLoad(p *arena.Port) {
	h.task.Load = p.Load(h.at.loadCell(h.stack, h.size-1))
	h.next = shrink
}

func (h *Handle) shrink(p *arena.Port) {
	p.Store(h.at.sizeCell(h.stack), uint64(h.size)-1)
	h.inHand = true
	h.next, h.came = free, api.StTask
}

// lock tries to get the stack's lock, and tells whether it did.
func (h *Handle) lock(p *arena.Port) bool {
	return p.Cas(h.at.lockCell(h.stack), 0, uint64(h.who)+1)
}

func (h *Handle) free(p *arena.Port) {
	p.Store(h.at.lockCell(h.stack), 0)
	switch h.came {
	case api.StDone:
		h.low = min(h.low, h.stack)
		h.end(api.StDone)
	case api.StFull:
		h.end(api.StFull, h.task)
	case api.StTask:
		h.low = h.stack
		h.end(api.StTask, h.task)
	default: // another has emptied this stack since its size was looked at
		h.goToNext()
	}
}

// goToNext goes round to the next stack.
func (h *Handle) goToNext() {
	if h.left == 0 {
		h.low = 0
		h.end(api.StEmpty)
		return
	}
	h.left--
	h.stack = (h.stack + 1) % h.at.Slots
	h.next = lookForTask
}
