package lane

import (
	"wayfare/api"
	"wayfare/arena"
)

// Each of these makes one access, and says by o.next which comes behind it.

func (o *Op) lock(p *arena.Port) {
	if !p.Cas(o.at.lockCell(), 0, o.mark) {
		o.end(api.Reply{Status: api.StBusy, Tasks: o.left})
		return
	}
	o.locked = true
	o.begin()
	o.next = o.stepHeap
}

func (o *Op) stepHeap(p *arena.Port) {
	o.visit.Step(p)
	if o.visit.Over() && !o.goOn() {
		o.next = o.readSize
	}
}

func (o *Op) readSize(p *arena.Port) {
	if p.Load(o.at.sizeCell()) == 0 {
		o.top = api.Never
		o.next = o.publish
		return
	}
	o.next = o.readTop
}

func (o *Op) readTop(p *arena.Port) {
	o.top = p.Load(o.at.firstKeyCell())
	o.next = o.publish
}

func (o *Op) publish(p *arena.Port) {
	p.Store(o.at.topCell(), o.top)
	o.next = o.unlock
}

func (o *Op) unlock(p *arena.Port) {
	p.Store(o.at.lockCell(), 0)
	o.end(o.visit.reply())
}

func (o *Op) end(r api.Reply) {
	o.next, o.locked, o.answer = nil, false, r
}
