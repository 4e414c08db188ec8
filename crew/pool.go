package crew

import (
	"wayfare/api"
	"wayfare/arena"
	"wayfare/bucket"
	"wayfare/dice"
	"wayfare/multi"
	"wayfare/ring"
	"wayfare/steal"
)

// handle is where one worker inserts and takes, whatever the pool.
type handle interface {
	Insert(t api.Task) api.Errno
	Take() api.Errno
	Over() bool
	Step(p *arena.Port)
	Reply() api.Reply
}

// pool is one of the four in the shape that a plan gives it, with the handles that were opened at it.
type pool interface {
	cells() (int, api.Errno)
	fill(tasks []api.Task) ([]uint64, api.Errno)
	open(who int, d *dice.Dice) handle
	held(cells []uint64) []api.Task
	keeps() bool // what finds no room stays in the handle, and is held there
}

// shaped is a pool by its package's calls.
type shaped[S any, H handle] struct {
	shape   S
	handles []H
	roomy   bool

	callCells func(S) (int, api.Errno)
	callFill  func(S, []api.Task) ([]uint64, api.Errno)
	callOpen  func(S, int, *dice.Dice) (H, api.Errno)
	callHeld  func(S, []uint64, []H) ([]api.Task, api.Errno)
}

func (s *shaped[S, H]) cells() (int, api.Errno) {
	return s.callCells(s.shape)
}

func (s *shaped[S, H]) fill(tasks []api.Task) ([]uint64, api.Errno) {
	return s.callFill(s.shape, tasks)
}

// open is not refused: cells has looked at the shape, and each worker is one of the plan's.
func (s *shaped[S, H]) open(who int, d *dice.Dice) handle {
	h, _ := s.callOpen(s.shape, who, d)
	s.handles = append(s.handles, h)
	return h
}

func (s *shaped[S, H]) held(cells []uint64) []api.Task {
	l, _ := s.callHeld(s.shape, cells, s.handles)
	return l
}

func (s *shaped[S, H]) keeps() bool {
	return s.roomy
}

// poolAt is the pool that a plan asks for, nil if there is none such.
func poolAt(base int, p api.Plan) pool {
	switch p.Pool {
	case api.PoolMulti:
		return &shaped[api.Multi, *multi.Handle]{
			shape: api.Multi{
				Base: base, Workers: p.Workers, Per: p.Per, Cap: p.Cap, Arity: p.Arity,
				In: p.In, Out: p.Out, Stick: p.Stick, Tries: p.Tries,
			},
			roomy:     true,
			callCells: multi.Cells, callFill: multi.Fill, callOpen: multi.Open, callHeld: multi.Held,
		}
	case api.PoolRing:
		return &shaped[api.Ring, *ring.Handle]{
			shape:     api.Ring{Base: base, Cap: p.Cap},
			callCells: ring.Cells, callFill: ring.Fill, callOpen: withoutDice(ring.Open), callHeld: ring.Held,
		}
	case api.PoolSteal:
		return &shaped[api.Steal, *steal.Handle]{
			shape:     api.Steal{Base: base, Workers: p.Workers, Cap: p.Cap, Tries: p.Tries},
			callCells: steal.Cells, callFill: steal.Fill, callOpen: steal.Open, callHeld: steal.Held,
		}
	case api.PoolBucket:
		return &shaped[api.Bucket, *bucket.Handle]{
			shape:     api.Bucket{Base: base, Workers: p.Workers, Slots: p.Slots, Cap: p.Cap, Width: p.Width},
			callCells: bucket.Cells, callFill: bucket.Fill, callOpen: withoutDice(bucket.Open), callHeld: bucket.Held,
		}
	}
	return nil
}

// withoutDice is how a handle is opened that draws nothing.
func withoutDice[S, H any](open func(S, int) (H, api.Errno)) func(S, int, *dice.Dice) (H, api.Errno) {
	return func(shape S, who int, _ *dice.Dice) (H, api.Errno) {
		return open(shape, who)
	}
}
