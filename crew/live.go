package crew

import (
	"sync"

	"wayfare/api"
)

// Live runs a search with a goroutine for each worker: its outcome, and the labels if it is done.
func Live(g api.Graph, p api.Plan) (int, []uint64, api.Errno) {
	cells, e := firstCells(g, p)
	if e != api.OK {
		return 0, nil, e
	}
	p.Keep = false // the accesses could not be asked for
	s := layOut(g, p, cells)
	outcome := outcomeOf(s.goLive())
	if outcome != api.RunDone {
		return outcome, nil, api.OK
	}
	return outcome, s.labels(), api.OK
}

// goLive lets all workers go at the same time until they are over, and tells the first fault that one of them has come to; 0: none has.
func (s *search) goLive() uint64 {
	ends := make(chan uint64, len(s.workers)) // room for all, so that none waits to be heard
	var all sync.WaitGroup
	for _, w := range s.workers {
		all.Add(1)
		go func() {
			defer all.Done()
			ends <- w.goOn()
		}()
	}
	all.Wait()
	close(ends)
	var fault uint64
	var first sync.Once
	for came := range ends {
		if came != 0 {
			first.Do(func() { fault = came })
		}
	}
	return fault
}

// goOn steps the worker to its end, and tells the fault that it has come to.
func (w *worker) goOn() uint64 {
	port, _ := w.search.arena.Port(w.who)
	for !w.Over() {
		port.Grant()
		w.Step(port)
	}
	return w.fault
}
