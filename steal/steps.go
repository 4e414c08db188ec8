package steal

import (
	"wayfare/api"
	"wayfare/arena"
)

// Each of these makes one access, and says by h.next which comes behind it. First those of an Insert:

func (h *Handle) readBottom(p *arena.Port) {
	h.bottom = p.Load(h.at.bottomCell(h.who))
	h.next = h.lookForRoom
}

func (h *Handle) lookForRoom(p *arena.Port) {
	h.top = p.Load(h.at.topCell(h.who))
	if h.bottom-h.top >= uint64(h.at.Cap) {
		h.end(api.StFull, h.hand[0].task)
		return
	}
	h.next = h.putKey
}

func (h *Handle) putKey(p *arena.Port) {
	p.Store(h.at.keyCell(h.who, h.bottom), h.hand[0].task.Key)
	h.next = h.putLoad
}

func (h *Handle) putLoad(p *arena.Port) {
	p.Store(h.at.loadCell(h.who, h.bottom), h.hand[0].task.Load)
	h.next = h.raiseBottom
}

func (h *Handle) raiseBottom(p *arena.Port) {
	p.Store(h.at.bottomCell(h.who), h.bottom+1)
	h.end(api.StDone)
}

// Those of a Take at the worker's own deque:

func (h *Handle) readOwnBottom(p *arena.Port) {
	h.bottom = p.Load(h.at.bottomCell(h.who))
	h.next = h.lowerBottom
}

func (h *Handle) lowerBottom(p *arena.Port) {
	p.Store(h.at.bottomCell(h.who), h.bottom-1)
	h.lowered = true
	h.next = h.readOwnTop
}

func (h *Handle) readOwnTop(p *arena.Port) {
	h.top, h.index = p.Load(h.at.topCell(h.who)), h.bottom-1
	if h.top > h.index {
		h.next = h.restoreBottom
		return
	}
	h.next = h.readKey
}

func (h *Handle) restoreBottom(p *arena.Port) {
	p.Store(h.at.bottomCell(h.who), h.bottom)
	if h.hand[0].mine {
		h.end(api.StTask, h.hand[0].task)
		return
	}
	h.lowered = false
	h.goToNext()
}

// Those at another's deque:

func (h *Handle) readTop(p *arena.Port) {
	h.top = p.Load(h.at.topCell(h.deque))
	h.next = h.lookForTask
}

func (h *Handle) lookForTask(p *arena.Port) {
	h.bottom, h.index = p.Load(h.at.bottomCell(h.deque)), h.top
	if h.top >= h.bottom {
		h.goToNext()
		return
	}
	h.next = h.readKey
}

// Those at whichever deque it is at:

func (h *Handle) readKey(p *arena.Port) {
	h.hand[0].task.Key = p.Load(h.at.keyCell(h.deque, h.index))
	h.next = h.readLoad
}

func (h *Handle) readLoad(p *arena.Port) {
	h.hand[0].task.Load = p.Load(h.at.loadCell(h.deque, h.index))
	if h.index != h.top { // of its own deque, and not the last one there: nobody else reaches for it
		h.end(api.StTask, h.hand[0].task)
		return
	}
	h.next = h.race
}

func (h *Handle) race(p *arena.Port) {
	h.hand[0].mine = true
	if !p.Cas(h.at.topCell(h.deque), h.top, h.top+1) {
		clear(h.hand[:]) // what was read is another's
	}
	switch {
	case h.deque == h.who:
		h.next = h.restoreBottom
	case h.hand[0].mine:
		h.end(api.StTask, h.hand[0].task)
	default:
		h.goToNext()
	}
}

// goToNext goes to the next deque to steal from: as many as may be are drawn, then comes each in its turn.
func (h *Handle) goToNext() {
	for h.tries > 0 {
		h.tries--
		if h.visit(h.draw()) {
			return
		}
	}
	for h.round < h.at.Workers {
		h.round++
		if h.visit(h.round - 1) {
			return
		}
	}
	h.end(api.StEmpty)
}

// visit goes to a deque, if it is another's, and tells whether it is.
func (h *Handle) visit(who int) bool {
	if who == h.who {
		return false
	}
	h.deque, h.next = who, h.readTop
	return true
}
