package bucket

import (
	"slices"

	"wayfare/api"
	"wayfare/arena"
)

// owner is whose a handle is: of which pool, and of which of its workers.
type owner struct {
	at  layout
	who int
}

// Handle is where one worker inserts and takes.
type Handle struct {
	owner
	low   int // the stack where a Take begins
	next  int // which step comes next; atRest: no operation is open
	reply api.Reply

	stack  int // the stack it is at
	left   int // of a Take: how many stacks come behind this one
	size   int // as it was read under the lock
	task   api.Task
	inHand bool // the task is this operation's, and no stack's
	came   int  // what it has come to at this stack, told when the lock is freed
}

// Open is the handle of a worker.
func Open(b api.Bucket, who int) (*Handle, api.Errno) {
	at := layout(b)
	if e := at.check(); e != api.OK {
		return nil, e
	}
	if who < 0 || who >= at.Workers {
		return nil, api.ErrPlace
	}
	return &Handle{owner: owner{at: at, who: who}, reply: api.Reply{Status: api.StDone}}, api.OK
}

// Insert begins to insert a task.
func (h *Handle) Insert(t api.Task) api.Errno {
	if e := h.ready(); e != api.OK {
		return e
	}
	if t.Key == api.Never {
		return api.ErrLabel
	}
	h.next, h.reply = lockForRoom, api.Reply{}
	h.stack, h.task, h.inHand = h.at.stackOf(t), t, true
	return api.OK
}

// Take begins to take a task.
func (h *Handle) Take() api.Errno {
	if e := h.ready(); e != api.OK {
		return e
	}
	h.next, h.reply = lookForTask, api.Reply{}
	h.stack, h.left = h.low, h.at.Slots-1
	return api.OK
}

// ready tells why no operation at all may be begun.
func (h *Handle) ready() api.Errno {
	if h == nil || h.at.check() != api.OK { // Open made no such handle
		return api.ErrShape
	}
	if h.next != atRest {
		return api.ErrBusy
	}
	return api.OK
}

// end leaves nothing in hand: it is in the cells, or in the reply.
func (h *Handle) end(status int, tasks ...api.Task) {
	h.next, h.inHand, h.reply = atRest, false, api.Reply{Status: status, Tasks: tasks}
}

// Over tells whether no operation is open.
func (h *Handle) Over() bool {
	return h == nil || h.next == atRest
}

// Step makes the next access.
func (h *Handle) Step(p *arena.Port) {
	if !h.Over() {
		steps()[h.next](h, p)
	}
}

// Reply tells what the last operation has come to.
func (h *Handle) Reply() api.Reply {
	if h == nil {
		return api.Reply{Status: api.StDone}
	}
	return api.Reply{Status: h.reply.Status, Tasks: slices.Clone(h.reply.Tasks)}
}
