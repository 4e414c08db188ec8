package multi

import (
	"wayfare/api"
	"wayfare/arena"
	"wayfare/dice"
	"wayfare/lane"
)

// Handle is where one worker inserts and takes.
type Handle struct {
	at    layout
	who   int
	dice  *dice.Dice
	next  func(p *arena.Port) // what is to be done with the next access; nil: no operation is open
	reply api.Reply

	in      []api.Task // held back, in the order in which they came
	inLane  int        // where they are pushed
	inLeft  int        // how often there yet
	flushed func()     // what comes behind pushing them

	out     []api.Task // taken ahead, in the order in which they were popped
	a, b    int        // the lanes whose tops are looked at
	outLeft int        // how often these yet
	topOfA  uint64
	fails   int
	round   int // the lane that comes next when all are gone through

	lane    api.Lane // where an operation of a lane is open
	visit   *lane.Op // that operation; nil: there is none
	pushing bool     // it is a Push
	settle  func(r api.Reply)
}

// Open is the handle of a worker.
func Open(m api.Multi, who int, d *dice.Dice) (*Handle, api.Errno) {
	at := layout(m)
	if e := at.check(); e != api.OK {
		return nil, e
	}
	if who < 0 || who >= at.Workers {
		return nil, api.ErrPlace
	}
	return &Handle{at: at, who: who, dice: d, reply: api.Reply{Status: api.StDone}}, api.OK
}

// Insert begins to insert a task.
func (h *Handle) Insert(t api.Task) api.Errno {
	if e := h.ready(); e != api.OK {
		return e
	}
	if t.Key == api.Never {
		return api.ErrLabel
	}
	h.in = append(h.in, t)
	if len(h.in) < h.at.In {
		h.end(api.StDone)
		return api.OK
	}
	h.reply = api.Reply{}
	h.flush(h.endInsert)
	return api.OK
}

// Take begins to take a task.
func (h *Handle) Take() api.Errno {
	if e := h.ready(); e != api.OK {
		return e
	}
	if len(h.out) > 0 {
		h.takeBuffered()
		return api.OK
	}
	h.reply, h.fails = api.Reply{}, 0
	h.choose()
	return api.OK
}

// ready tells why no operation at all may be begun.
func (h *Handle) ready() api.Errno {
	if h == nil || h.at.check() != api.OK { // Open made no such handle
		return api.ErrShape
	}
	if h.next != nil {
		return api.ErrBusy
	}
	return api.OK
}

func (h *Handle) end(status int, tasks ...api.Task) {
	h.next, h.reply = nil, api.Reply{Status: status, Tasks: tasks}
}

// Over tells whether no operation is open.
func (h *Handle) Over() bool {
	return h == nil || h.next == nil
}

// Step makes the next access.
func (h *Handle) Step(p *arena.Port) {
	if !h.Over() {
		h.next(p)
	}
}

// Reply tells what the last operation has come to.
func (h *Handle) Reply() api.Reply {
	if h == nil {
		return api.Reply{Status: api.StDone}
	}
	return api.Reply{Status: h.reply.Status, Tasks: copied(h.reply.Tasks)}
}

// locks tells whether an open operation of this handle has the lock of that lane.
func (h *Handle) locks(l api.Lane) bool {
	return h != nil && h.visit != nil && h.lane == l && h.visit.Locked()
}

// draw draws a lane.
func (h *Handle) draw() int {
	if h.dice == nil {
		return 0
	}
	q, _ := h.dice.Below(uint64(h.at.lanes()))
	return int(q)
}
