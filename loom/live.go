package loom

import (
	"sync"
	"sync/atomic"

	"wayfare/api"
	"wayfare/arena"
)

// Live lets all machines go at the same time, each in a goroutine, until all are over.
func Live(a *arena.Arena, ms []Machine) api.Errno {
	seats := seatsFor(a, ms)
	var over atomic.Int64
	var all sync.WaitGroup
	for i := range seats {
		all.Add(1)
		go func() {
			defer all.Done()
			if seats[i].goes(a) {
				over.Add(1)
			}
		}()
	}
	all.Wait()
	if over.Load() < int64(len(seats)) || stopped(a) { // only a stop keeps a machine from its end; but all may be over and the arena stopped
		return api.ErrCell
	}
	return api.OK
}

// goes steps the machine as long as there is something to do, and tells whether it came to its end; else the arena was stopped.
func (s *seat) goes(a *arena.Arena) bool {
	for !s.machine.Over() {
		if stopped(a) {
			return false
		}
		s.step(a)
	}
	return true
}
