package heap

import (
	"wayfare/api"
	"wayfare/arena"
)

// The methods that are handed a port make one access each, and say by o.next which comes behind it; the others go on without one.

// readRoom begins a Push.
func (o *Op) readRoom(p *arena.Port) {
	o.size = o.at.count(p.Load(o.at.sizeCell()))
	if o.size == o.at.Cap {
		o.end(api.StFull, o.task)
		return
	}
	o.walking, o.span, o.hole = true, o.size+1, o.size
	o.rise()
}

// rise goes on at the hole of a Push.
func (o *Op) rise() {
	if o.hole == 0 {
		o.next = o.placeKey
		return
	}
	o.from = o.at.above(o.hole)
	o.next = o.readAbove
}

func (o *Op) readAbove(p *arena.Port) {
	o.mover.Key = p.Load(o.at.keyCell(o.from))
	if o.mover.Key > o.task.Key {
		o.next = o.moveRead
	} else {
		o.next = o.placeKey
	}
}

// grow follows when a pushed task is put down.
func (o *Op) grow() {
	o.next = o.raiseSize
}

func (o *Op) raiseSize(p *arena.Port) {
	p.Store(o.at.sizeCell(), uint64(o.size)+1)
	o.end(api.StDone)
}

// readSize begins a Pop and a Peek.
func (o *Op) readSize(p *arena.Port) {
	o.size = o.at.count(p.Load(o.at.sizeCell()))
	if o.size == 0 {
		o.end(api.StEmpty)
		return
	}
	o.next = o.readTopKey
}

func (o *Op) readTopKey(p *arena.Port) {
	o.top.Key = p.Load(o.at.keyCell(0))
	o.next = o.readTopLoad
}

func (o *Op) readTopLoad(p *arena.Port) {
	o.top.Load = p.Load(o.at.loadCell(0))
	o.topped()
}

func (o *Op) endWithTop() {
	o.end(api.StTask, o.top)
}

// shrink follows when a Pop has read the first place.
func (o *Op) shrink() {
	o.next = o.lowerSize
}

func (o *Op) lowerSize(p *arena.Port) {
	p.Store(o.at.sizeCell(), uint64(o.size)-1)
	if o.size == 1 {
		o.endWithTop()
		return
	}
	o.walking, o.span, o.hole = true, o.size, 0
	o.hand = []api.Task{o.top}
	o.next = o.readLastKey
}

func (o *Op) readLastKey(p *arena.Port) {
	o.task.Key = p.Load(o.at.keyCell(o.size - 1))
	o.next = o.readLastLoad
}

func (o *Op) readLastLoad(p *arena.Port) {
	o.task.Load = p.Load(o.at.loadCell(o.size - 1))
	o.sink()
}

// sink goes on at the hole of a Pop.
func (o *Op) sink() {
	first, last := o.below()
	if first > last {
		o.next = o.placeKey
		return
	}
	o.from, o.child = first, first
	o.mover.Key = api.Never // so the first one stays, if no key is below that
	o.next = o.readBelow
}

// below tells the first and the last place below the hole that a Pop may take from: the heap's last task is the one to be put down.
func (o *Op) below() (first, last int) {
	first, last = o.at.below(o.hole)
	return first, min(last, o.size-2)
}

func (o *Op) readBelow(p *arena.Port) {
	if key := p.Load(o.at.keyCell(o.child)); key < o.mover.Key {
		o.from, o.mover.Key = o.child, key
	}
	o.child++
	if _, last := o.below(); o.child <= last {
		return
	}
	if o.mover.Key < o.task.Key {
		o.next = o.moveRead
	} else {
		o.next = o.placeKey
	}
}

func (o *Op) moveRead(p *arena.Port) {
	o.mover.Load = p.Load(o.at.loadCell(o.from))
	o.next = o.moveKey
}

func (o *Op) moveKey(p *arena.Port) {
	p.Store(o.at.keyCell(o.hole), o.mover.Key)
	o.next = o.moveLoad
}

func (o *Op) moveLoad(p *arena.Port) {
	p.Store(o.at.loadCell(o.hole), o.mover.Load)
	o.hole = o.from
	o.moved()
}

func (o *Op) placeKey(p *arena.Port) {
	p.Store(o.at.keyCell(o.hole), o.task.Key)
	o.next = o.placeLoad
}

func (o *Op) placeLoad(p *arena.Port) {
	p.Store(o.at.loadCell(o.hole), o.task.Load)
	o.placed()
}
