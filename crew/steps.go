package crew

import (
	"wayfare/api"
	"wayfare/arena"
	"wayfare/quiet"
	"wayfare/route"
)

// For each phase: how it is begun, what its step does, and what comes behind it.

func (w *worker) ask() {
	w.count(api.PhAsk, quiet.Ask)
}

func (w *worker) stepAsk(p *arena.Port) {
	if w.op.Step(p); !w.op.Over() {
		return
	}
	switch w.op.Reply().Status {
	case api.StGo:
		w.take()
	case api.StFail:
		w.endWith(noRoom)
	default:
		w.endWith(0)
	}
}

func (w *worker) take() {
	w.phase = api.PhTake
	w.put(api.EvTake, api.Task{})
	w.handle.Take()
	w.taken()
}

func (w *worker) stepTake(p *arena.Port) {
	w.handle.Step(p)
	w.taken()
}

// taken goes on by what Take has come to, if it is over: that may be as soon as it is begun.
func (w *worker) taken() {
	if !w.handle.Over() {
		return
	}
	r := w.handle.Reply()
	switch r.Status {
	case api.StTask:
		w.task, w.inHand = r.Tasks[0], true
		w.put(api.EvTask, w.task)
		w.phase = api.PhLook
	case api.StFull:
		w.put(api.EvFull, api.Task{})
		w.fail()
	default:
		w.put(api.EvEmpty, api.Task{})
		w.ask()
	}
}

// vertex is where the task in hand is.
func (w *worker) vertex() int {
	return int(w.task.Load)
}

func (w *worker) stepLook(p *arena.Port) {
	if p.Load(labelCell(w.vertex())) != w.task.Key { // it was lowered since: another task has the better label
		w.end()
		return
	}
	w.goAlong(w.search.graph.Start[w.vertex()])
}

// goAlong goes on with an edge of the row, or ends the task behind the last one.
func (w *worker) goAlong(edge int) {
	g := w.search.graph
	if edge == g.Start[w.vertex()+1] {
		w.end()
		return
	}
	label, _ := route.Extend(w.search.kind, w.task.Key, g.Weight[edge])
	w.edge, w.next = edge, api.Task{Key: label, Load: uint64(g.To[edge])}
	w.phase = api.PhRead
}

// endCell is where the label of the edge's end stands.
func (w *worker) endCell() int {
	return labelCell(w.search.graph.To[w.edge])
}

func (w *worker) stepRead(p *arena.Port) {
	w.seen = p.Load(w.endCell())
	if w.seen <= w.next.Key {
		w.goAlong(w.edge + 1)
		return
	}
	w.phase = api.PhLower
}

func (w *worker) stepLower(p *arena.Port) {
	if !p.Cas(w.endCell(), w.seen, w.next.Key) {
		w.phase = api.PhRead
		return
	}
	w.search.diary.putBorn(w.next)
	w.count(api.PhRaise, quiet.Raise)
}

func (w *worker) stepRaise(p *arena.Port) {
	w.op.Step(p)
	w.insert()
}

func (w *worker) insert() {
	w.phase = api.PhInsert
	w.put(api.EvInsert, w.next)
	w.handle.Insert(w.next)
	w.inserted()
}

func (w *worker) stepInsert(p *arena.Port) {
	w.handle.Step(p)
	w.inserted()
}

// inserted goes on by what Insert has come to, if it is over: that may be as soon as it is begun.
func (w *worker) inserted() {
	if !w.handle.Over() {
		return
	}
	r := w.handle.Reply()
	if r.Status == api.StFull {
		if !w.search.pool.keeps() {
			w.left = r.Tasks
		}
		w.put(api.EvFull, api.Task{})
		w.fail()
		return
	}
	w.put(api.EvInserted, api.Task{})
	w.goAlong(w.edge + 1)
}

func (w *worker) end() {
	w.count(api.PhEnd, quiet.Lower)
}

func (w *worker) stepEnd(p *arena.Port) {
	w.op.Step(p)
	if w.inHand { // the first access ends the task, though another may follow it
		w.inHand = false
		w.search.diary.putEnded(w.task)
	}
	if w.op.Over() {
		w.ask()
	}
}

func (w *worker) fail() {
	w.count(api.PhFail, tellNoRoom)
}

func tellNoRoom(q api.Quiet) (*quiet.Op, api.Errno) {
	return quiet.Fail(q, noRoom)
}

func (w *worker) stepFail(p *arena.Port) {
	w.op.Step(p)
	w.endWith(noRoom)
}

// endWith lets the worker be over.
func (w *worker) endWith(fault uint64) {
	w.phase, w.fault = api.PhOver, fault
}
