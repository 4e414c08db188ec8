package ring

import (
	"slices"

	"wayfare/api"
	"wayfare/arena"
)

// phase tells what an operation does with its next access.
type phase int

const (
	atRest phase = iota // no operation is open

	readTail // of an Insert, from here on
	readRoom
	claimRoom
	putKey
	putLoad
	passToTaker

	readHead // of a Take, from here on
	readFilled
	claimTask
	getKey
	getLoad
	passToInserter
)

// Handle is where one worker inserts and takes.
type Handle struct {
	at    layout
	phase phase
	place uint64   // the tail or the head, as it was read
	task  api.Task // what is inserted; what is taken, as far as it was read
	reply api.Reply
}

// Open is the handle of a worker.
func Open(r api.Ring, who int) (*Handle, api.Errno) {
	at := layout(r)
	if e := at.check(); e != api.OK {
		return nil, e
	}
	if who < 0 {
		return nil, api.ErrPlace
	}
	return &Handle{at: at, reply: api.Reply{Status: api.StDone}}, api.OK
}

// Insert begins to insert a task.
func (h *Handle) Insert(t api.Task) api.Errno {
	if e := h.ready(); e != api.OK {
		return e
	}
	if t.Key == api.Never {
		return api.ErrLabel
	}
	h.phase, h.task, h.reply = readTail, t, api.Reply{}
	return api.OK
}

// Take begins to take a task.
func (h *Handle) Take() api.Errno {
	if e := h.ready(); e != api.OK {
		return e
	}
	h.phase, h.task, h.reply = readHead, api.Task{}, api.Reply{}
	return api.OK
}

// ready tells why no operation at all may be begun.
func (h *Handle) ready() api.Errno {
	if h == nil || h.at.check() != api.OK { // Open made no such handle
		return api.ErrShape
	}
	if h.phase != atRest {
		return api.ErrBusy
	}
	return api.OK
}

// Over tells whether no operation is open.
func (h *Handle) Over() bool {
	return h == nil || h.phase == atRest
}

// Step makes the next access.
func (h *Handle) Step(p *arena.Port) {
	if h.Over() {
		return
	}
	slot := h.at.slot(h.place)
	switch h.phase {
	case readTail:
		h.place, h.phase = p.Load(h.at.tailCell()), readRoom
	case readRoom:
		h.lookForRoom(p.Load(h.at.turnCell(slot)))
	case claimRoom:
		h.phase = either(p.Cas(h.at.tailCell(), h.place, h.place+1), putKey, readTail)
	case putKey:
		p.Store(h.at.keyCell(slot), h.task.Key)
		h.phase = putLoad
	case putLoad:
		p.Store(h.at.loadCell(slot), h.task.Load)
		h.phase = passToTaker
	case passToTaker:
		p.Store(h.at.turnCell(slot), h.place+1)
		h.end(api.StDone)
	case readHead:
		h.place, h.phase = p.Load(h.at.headCell()), readFilled
	case readFilled:
		h.lookForTask(p.Load(h.at.turnCell(slot)))
	case claimTask:
		h.phase = either(p.Cas(h.at.headCell(), h.place, h.place+1), getKey, readHead)
	case getKey:
		h.task.Key, h.phase = p.Load(h.at.keyCell(slot)), getLoad
	case getLoad:
		h.task.Load, h.phase = p.Load(h.at.loadCell(slot)), passToInserter
	case passToInserter:
		p.Store(h.at.turnCell(slot), h.place+uint64(h.at.Cap))
		h.end(api.StTask, h.task)
	}
}

// lookForRoom goes on by the turn of the slot where the tail was read to be.
func (h *Handle) lookForRoom(turn uint64) {
	switch {
	case turn == h.place:
		h.phase = claimRoom
	case turn < h.place: // what came in one round ago has not gone out
		h.end(api.StFull, h.task)
	default: // another has had this place since
		h.phase = readTail
	}
}

// lookForTask goes on by the turn of the slot where the head was read to be.
func (h *Handle) lookForTask(turn uint64) {
	filled := h.place + 1
	switch {
	case turn == filled:
		h.phase = claimTask
	case turn < filled: // nothing has come in here yet
		h.end(api.StEmpty)
	default:
		h.phase = readHead
	}
}

func either(went bool, on, again phase) phase {
	if went {
		return on
	}
	return again
}

func (h *Handle) end(status int, tasks ...api.Task) {
	h.phase, h.reply = atRest, api.Reply{Status: status, Tasks: tasks}
}

// Reply tells what the last operation has come to.
func (h *Handle) Reply() api.Reply {
	if h == nil {
		return api.Reply{Status: api.StDone}
	}
	return api.Reply{Status: h.reply.Status, Tasks: slices.Clone(h.reply.Tasks)}
}

// inHand tells the tasks that are this operation's, and no slot's that is filled.
func (h *Handle) inHand(cells []uint64) []api.Task {
	switch h.phase {
	case readTail, readRoom, claimRoom, putKey, putLoad, passToTaker:
		return []api.Task{h.task}
	case getKey, getLoad, passToInserter: // it may not have read all of it
		return []api.Task{h.at.task(cells, h.at.slot(h.place))}
	}
	return nil
}
