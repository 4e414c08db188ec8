package crew

import (
	"wayfare/api"
	"wayfare/arena"
	"wayfare/quiet"
)

// noRoom is the code of the one fault that there is.
const noRoom = 1

// worker takes tasks and carries their labels along the edges: a machine.
type worker struct {
	search *search
	who    int
	handle handle
	phase  int
	op     *quiet.Op // what is open at the counts, in PhAsk, PhRaise, PhEnd and PhFail

	task   api.Task // what was taken last
	inHand bool     // it has not ended

	edge int      // the place of the edge it is at
	seen uint64   // the label that was read at that edge's end
	next api.Task // the end, with the label that the edge brings it

	left  []api.Task // what found no room and is in no handle
	fault uint64     // the fault that it told, or was told
}

// newWorker is a worker that is about to ask.
func newWorker(s *search, who int, h handle) *worker {
	w := &worker{search: s, who: who, handle: h}
	w.ask()
	return w
}

// Over tells whether the worker is over.
func (w *worker) Over() bool {
	return w.phase == api.PhOver
}

// Step makes the next access.
func (w *worker) Step(p *arena.Port) {
	switch w.phase {
	case api.PhAsk:
		w.stepAsk(p)
	case api.PhTake:
		w.stepTake(p)
	case api.PhLook:
		w.stepLook(p)
	case api.PhRead:
		w.stepRead(p)
	case api.PhLower:
		w.stepLower(p)
	case api.PhRaise:
		w.stepRaise(p)
	case api.PhInsert:
		w.stepInsert(p)
	case api.PhEnd:
		w.stepEnd(p)
	case api.PhFail:
		w.stepFail(p)
	}
}

// holds tells the tasks that are with this worker, and not in the pool.
func (w *worker) holds() []api.Task {
	var out []api.Task
	if w.inHand {
		out = append(out, w.task)
	}
	if w.phase == api.PhRaise {
		out = append(out, w.next)
	}
	return append(out, w.left...)
}

// put puts an event of this worker down.
func (w *worker) put(kind int, t api.Task) {
	w.search.diary.putEvent(w.who, kind, t)
}

// count begins an operation at the counts.
func (w *worker) count(phase int, begin func(api.Quiet) (*quiet.Op, api.Errno)) {
	w.phase = phase
	w.op, _ = begin(api.Quiet{Base: pendingCell}) // not refused: these are the first cells
}
