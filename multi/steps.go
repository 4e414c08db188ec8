package multi

import (
	"wayfare/api"
	"wayfare/arena"
	"wayfare/lane"
)

// flush begins to push what is held back; behind comes what follows if all of it went in.
func (h *Handle) flush(behind func()) {
	h.flushed = behind
	h.push()
}

func (h *Handle) push() {
	if h.inLeft == 0 {
		h.inLane, h.inLeft = h.draw(), h.at.Stick
	}
	h.lane, h.pushing, h.settle = h.at.lane(h.inLane), true, h.pushed
	h.visit, _ = lane.Push(h.lane, h.who, h.in) // not refused: shape and keys were looked at
	h.next = h.stepLane
}

func (h *Handle) pushed(r api.Reply) {
	switch r.Status {
	case api.StDone:
		h.inLeft--
		h.in = nil
		h.flushed()
	case api.StFull:
		h.inLeft, h.in = 0, r.Tasks
		h.end(api.StFull, copied(h.in)...)
	default:
		h.inLeft = 0
		h.push()
	}
}

func (h *Handle) endInsert() {
	h.end(api.StDone)
}

// pop begins to take tasks ahead out of a lane.
func (h *Handle) pop(q int, settle func(r api.Reply)) {
	h.lane, h.pushing, h.settle = h.at.lane(q), false, settle
	h.visit, _ = lane.Pop(h.lane, h.who, h.at.Out)
	h.next = h.stepLane
}

// stepLane makes the access of the lane's operation, and goes on by what it has come to.
func (h *Handle) stepLane(p *arena.Port) {
	h.visit.Step(p)
	if !h.visit.Over() {
		return
	}
	r := h.visit.Reply()
	h.visit = nil
	h.settle(r)
}

// choose chooses two lanes, whose tops are looked at; behind too many failures all of them are gone through.
func (h *Handle) choose() {
	if h.fails == h.at.Tries {
		h.sweep()
		return
	}
	if h.outLeft == 0 {
		h.a = h.draw()
		h.b = h.draw()
		h.outLeft = h.at.Stick
	}
	h.next = h.lookAtA
}

func (h *Handle) lookAtA(p *arena.Port) {
	h.topOfA = p.Load(h.at.topCell(h.a))
	h.next = h.lookAtB
}

func (h *Handle) lookAtB(p *arena.Port) {
	topOfB := p.Load(h.at.topCell(h.b))
	switch {
	case h.topOfA == api.Never && topOfB == api.Never:
		h.fail()
	case h.topOfA <= topOfB:
		h.pop(h.a, h.popped)
	default:
		h.pop(h.b, h.popped)
	}
}

func (h *Handle) popped(r api.Reply) {
	if r.Status != api.StTask {
		h.fail()
		return
	}
	h.outLeft--
	h.handOut(r.Tasks)
}

// fail gives up this choice.
func (h *Handle) fail() {
	h.outLeft = 0
	h.fails++
	h.choose()
}

// sweep goes through all lanes; what is held back goes into one of them first, so that nothing is passed over.
func (h *Handle) sweep() {
	h.round = 0
	if len(h.in) > 0 {
		h.flush(h.sweepOn)
		return
	}
	h.sweepOn()
}

// sweepOn goes on to the lane that comes next.
func (h *Handle) sweepOn() {
	if h.round == h.at.lanes() {
		h.end(api.StEmpty)
		return
	}
	h.next = h.lookAtNext
}

func (h *Handle) lookAtNext(p *arena.Port) {
	q := h.round
	h.round++
	if p.Load(h.at.topCell(q)) == api.Never {
		h.sweepOn()
		return
	}
	h.pop(q, h.swept)
}

func (h *Handle) swept(r api.Reply) {
	if r.Status != api.StTask {
		h.sweepOn()
		return
	}
	h.handOut(r.Tasks)
}
