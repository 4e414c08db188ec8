package quiet

import (
	"wayfare/api"
	"wayfare/arena"
)

// oneLess is what is added to a word to take 1 from it.
const oneLess = 1<<64 - 1

// Op is an operation that goes step by step.
type Op struct {
	base   int
	code   uint64                 // what a Fail tells
	next   func(*Op, *arena.Port) // what is to be done with the next access; nil: it is over
	status int
}

func (o *Op) pending() int { return o.base }

func (o *Op) done() int { return o.base + 1 }

func (o *Op) fault() int { return o.base + 2 }

// sayDone is the second access of a Lower that has lowered the last one.
func sayDone(o *Op, p *arena.Port) {
	p.Store(o.done(), 1)
	o.end(api.StDone)
}

// askDone is the second access of an Ask that has found no fault.
func askDone(o *Op, p *arena.Port) {
	if p.Load(o.done()) != 0 {
		o.end(api.StDone)
		return
	}
	o.end(api.StGo)
}

func (o *Op) end(status int) {
	o.next, o.status = nil, status
}

// Over tells whether it is over.
func (o *Op) Over() bool {
	return o == nil || o.next == nil
}

// Step makes the next access.
func (o *Op) Step(p *arena.Port) {
	if !o.Over() {
		o.next(o, p)
	}
}

// Reply tells what it has come to.
func (o *Op) Reply() api.Reply {
	if o == nil {
		return api.Reply{Status: api.StDone}
	}
	return api.Reply{Status: o.status} // StOpen is 0, so it is told until the end
}
