package heap

import (
	"slices"

	"wayfare/api"
	"wayfare/arena"
	"wayfare/task"
)

// Op is an operation that goes step by step.
type Op struct {
	at    layout
	next  func(p *arena.Port) // what is to be done with the next access; nil: it is over
	reply api.Reply

	size int        // how many tasks there were, as it has read
	task api.Task   // what is put down in the end: what is pushed; of a Pop the heap's last one
	top  api.Task   // what a Pop or a Peek found at the first place
	hand []api.Task // what it holds that stands at no place that counts

	walk
	topped, moved, placed func() // what comes behind reading the first place, a move into the hole, putting down: these are shared
}

// walk is how the hole goes through the places.
type walk struct {
	walking bool // while it is, the size cell does not tell what is held
	span    int  // how many places count, the hole among them
	hole    int
	from    int      // whose task goes into the hole next
	mover   api.Task // that task
	child   int      // of a Pop: the place below the hole whose key is read next
}

// Push puts a task in.
func Push(h api.Heap, t api.Task) (*Op, api.Errno) {
	o, e := newOp(h)
	if e != api.OK {
		return nil, e
	}
	if t.Key == api.Never {
		return nil, api.ErrLabel
	}
	o.task, o.hand = t, []api.Task{t}
	o.next, o.moved, o.placed = o.readRoom, o.rise, o.grow
	return o, api.OK
}

// Pop takes a task with the least key out.
func Pop(h api.Heap) (*Op, api.Errno) {
	o, e := newOp(h)
	if e != api.OK {
		return nil, e
	}
	o.next, o.topped, o.moved, o.placed = o.readSize, o.shrink, o.sink, o.endWithTop
	return o, api.OK
}

// Peek looks at it.
func Peek(h api.Heap) (*Op, api.Errno) {
	o, e := newOp(h)
	if e != api.OK {
		return nil, e
	}
	o.next, o.topped = o.readSize, o.endWithTop
	return o, api.OK
}

func newOp(h api.Heap) (*Op, api.Errno) {
	at := layout(h)
	if e := at.check(); e != api.OK {
		return nil, e
	}
	return &Op{at: at}, api.OK
}

// Over tells whether it is over.
func (o *Op) Over() bool {
	return o.next == nil
}

// Step makes the next access.
func (o *Op) Step(p *arena.Port) {
	if o.next != nil {
		o.next(p)
	}
}

// Reply tells what it has come to.
func (o *Op) Reply() api.Reply {
	return api.Reply{Status: o.reply.Status, Tasks: slices.Clone(o.reply.Tasks)}
}

// Hold tells the tasks that the heap and this operation hold together, sorted.
func (o *Op) Hold(cells []uint64) ([]api.Task, api.Errno) {
	if e := o.at.checkCells(cells); e != api.OK {
		return nil, e
	}
	held := o.inPlaces(cells)
	held = append(held, o.hand...)
	task.Sort(held)
	return held, api.OK
}

// inPlaces tells the tasks that stand at places, without the one at the hole: that stands elsewhere already.
func (o *Op) inPlaces(cells []uint64) []api.Task {
	if !o.walking {
		return o.at.items(cells)
	}
	out := make([]api.Task, 0, o.span)
	for i := range o.span {
		if i != o.hole {
			out = append(out, o.at.task(cells, i))
		}
	}
	return out
}

// end leaves nothing in hand: it is in the cells, or in the reply.
func (o *Op) end(status int, tasks ...api.Task) {
	o.next, o.walking, o.hand = nil, false, nil
	o.reply = api.Reply{Status: status, Tasks: tasks}
}
