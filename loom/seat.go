package loom

import (
	"wayfare/api"
	"wayfare/arena"
)

// seat is a machine with the port that it goes by.
type seat struct {
	machine Machine
	port    *arena.Port
	moved   int
}

// seatsFor gives each machine a port of its own, with the machine's number.
func seatsFor(a *arena.Arena, ms []Machine) []seat {
	out := make([]seat, len(ms))
	for i, m := range ms {
		port, _ := a.Port(i) // refused of numbers below 0 alone
		out[i] = seat{machine: m, port: port}
	}
	return out
}

// step lets the machine make one access; one that makes none stops the arena.
func (s *seat) step(a *arena.Arena) {
	s.port.Grant()
	s.machine.Step(s.port)
	if s.port.Granted() {
		a.Stop(api.Fault{Who: s.port.Who(), Kind: api.FaultNone}) // an arena that is stopped already keeps its own fault
	}
}

// stopped tells whether anything has stopped the arena.
func stopped(a *arena.Arena) bool {
	_, is := a.Fault()
	return is
}

// rest is w mod n, not below 0.
func rest(w, n int) int {
	r := w % n
	if r < 0 {
		r += n
	}
	return r
}
