package steal

import (
	"slices"

	"wayfare/api"
	"wayfare/arena"
	"wayfare/dice"
)

// hold is a task that an operation has to do with.
type hold struct {
	task api.Task // what is inserted; what is taken, as far as it was read
	mine bool     // it is this operation's, and no deque's
}

// Handle is where one worker inserts and takes.
type Handle struct {
	at    layout
	who   int
	dice  *dice.Dice
	next  func(p *arena.Port) // what is to be done with the next access; nil: no operation is open
	reply api.Reply

	deque       int // whose deque it is at
	top, bottom uint64
	index       uint64 // of the task that is read
	hand        [1]hold
	lowered     bool // its own deque's bottom tells one task less than there are

	tries int // how many victims may still be drawn
	round int // whose deque comes next, when none is drawn any more
}

// Open is the handle of a worker.
func Open(s api.Steal, who int, d *dice.Dice) (*Handle, api.Errno) {
	at := layout(s)
	if e := at.check(); e != api.OK {
		return nil, e
	}
	if who < 0 || who >= at.Workers {
		return nil, api.ErrPlace
	}
	return &Handle{at: at, who: who, dice: d, reply: api.Reply{Status: api.StDone}}, api.OK
}

// Insert begins to insert a task.
func (h *Handle) Insert(t api.Task) api.Errno {
	if e := h.ready(); e != api.OK {
		return e
	}
	if t.Key == api.Never {
		return api.ErrLabel
	}
	h.begin(h.readBottom)
	h.hand[0] = hold{task: t, mine: true}
	return api.OK
}

// Take begins to take a task.
func (h *Handle) Take() api.Errno {
	if e := h.ready(); e != api.OK {
		return e
	}
	h.begin(h.readOwnBottom)
	h.tries, h.round = h.at.Tries, 0
	return api.OK
}

// ready tells why no operation at all may be begun.
func (h *Handle) ready() api.Errno {
	if h == nil || h.at.check() != api.OK { // Open made no such handle
		return api.ErrShape
	}
	if h.next != nil {
		return api.ErrBusy
	}
	return api.OK
}

// begin begins at the worker's own deque.
func (h *Handle) begin(first func(p *arena.Port)) {
	h.next, h.deque, h.reply = first, h.who, api.Reply{}
}

// end leaves nothing in hand: it is in the cells, or in the reply.
func (h *Handle) end(status int, tasks ...api.Task) {
	h.next, h.reply = nil, api.Reply{Status: status, Tasks: tasks}
	h.lowered = false
	clear(h.hand[:])
}

// Over tells whether no operation is open.
func (h *Handle) Over() bool {
	return h == nil || h.next == nil
}

// Step makes the next access.
func (h *Handle) Step(p *arena.Port) {
	if !h.Over() {
		h.next(p)
	}
}

// Reply tells what the last operation has come to.
func (h *Handle) Reply() api.Reply {
	if h == nil {
		return api.Reply{Status: api.StDone}
	}
	return api.Reply{Status: h.reply.Status, Tasks: slices.Clone(h.reply.Tasks)}
}

// bottomNow tells up to where the worker's own deque has tasks.
func (h *Handle) bottomNow(cells []uint64) uint64 {
	if h.lowered {
		return h.bottom
	}
	return cells[h.at.bottomCell(h.who)]
}

// draw draws a worker.
func (h *Handle) draw() int {
	if h.dice == nil {
		return 0
	}
	who, _ := h.dice.Below(uint64(h.at.Workers))
	return int(who)
}
