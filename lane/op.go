package lane

import (
	"slices"

	"wayfare/api"
	"wayfare/arena"
	"wayfare/task"
)

// Op is an operation that goes step by step.
type Op struct {
	visit
	at     layout
	mark   uint64              // what the lock's cell holds while this operation has it
	next   func(p *arena.Port) // what is to be done with the next access; nil: it is over
	locked bool
	top    uint64 // what is published
	answer api.Reply
}

// Push tries to lock the lane, and puts tasks in.
func Push(l api.Lane, who int, tasks []api.Task) (*Op, api.Errno) {
	o, e := newOp(l, who)
	if e != api.OK {
		return nil, e
	}
	if len(tasks) == 0 {
		return nil, api.ErrList
	}
	if task.AnyNever(tasks) {
		return nil, api.ErrLabel
	}
	o.left = slices.Clone(tasks)
	return o, api.OK
}

// Pop tries to lock the lane, and takes up to k tasks out.
func Pop(l api.Lane, who, k int) (*Op, api.Errno) {
	if k < 1 || k > api.MaxBuffer {
		return nil, api.ErrShape
	}
	o, e := newOp(l, who)
	if e != api.OK {
		return nil, e
	}
	o.want = k
	return o, api.OK
}

// newOp is an operation that stands ahead of the lock.
func newOp(l api.Lane, who int) (*Op, api.Errno) {
	at := layout(l)
	if e := at.check(); e != api.OK {
		return nil, e
	}
	if who < 0 {
		return nil, api.ErrPlace
	}
	o := &Op{at: at, mark: uint64(who) + 1}
	o.heap = at.heap()
	o.next = o.lock
	return o, api.OK
}

// Over tells whether it is over.
func (o *Op) Over() bool {
	return o.next == nil
}

// Step makes the next access.
func (o *Op) Step(p *arena.Port) {
	if o.next != nil {
		o.next(p)
	}
}

// Reply tells what it has come to.
func (o *Op) Reply() api.Reply {
	return api.Reply{Status: o.answer.Status, Tasks: slices.Clone(o.answer.Tasks)}
}

// Locked tells whether this operation has the lock.
func (o *Op) Locked() bool {
	return o.locked
}

// Hold tells the tasks that the lane and this operation hold together, while it has the lock, sorted.
func (o *Op) Hold(cells []uint64) ([]api.Task, api.Errno) {
	if e := o.at.checkCells(cells); e != api.OK {
		return nil, e
	}
	if !o.locked {
		return nil, api.ErrState
	}
	held, e := o.visit.Hold(cells) // of one that is over: the heap's Items
	if e != api.OK {
		return nil, e
	}
	held = append(held, o.beside()...)
	task.Sort(held)
	return held, api.OK
}
