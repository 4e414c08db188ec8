package pools_test

import (
	"iter"

	"wayfare/api"
	"wayfare/arena"
)

// teller is a chapter's telling of a handle: its operations in a straight line, as they are written there.
type teller interface {
	insert(t api.Task) api.Reply
	take() api.Reply
	held(cells []uint64, all []teller) []api.Task // of the whole pool
	steps() *line
}

// line is an operation that is told in a straight line, and stands still ahead of each access.
type line struct {
	port  *arena.Port
	open  bool
	reply api.Reply

	yield func(struct{}) bool
	next  func() (struct{}, bool)
	stop  func()
}

// cutOff ends a telling from within.
type cutOff struct{}

func newLine(p *arena.Port) *line {
	return &line{port: p, reply: api.Reply{Status: api.StDone}, stop: func() {}}
}

func (l *line) steps() *line { return l }

// begin goes up to the first access.
func (l *line) begin(tell func() api.Reply) {
	l.open, l.reply = true, api.Reply{}
	l.next, l.stop = iter.Pull(func(yield func(struct{}) bool) {
		defer func() {
			if x := recover(); x != nil && x != (cutOff{}) {
				panic(x)
			}
		}()
		l.yield = yield
		r := tell()
		l.open, l.reply = false, r
	})
	l.next()
}

// step makes the next access, and goes up to the one behind it.
func (l *line) step() {
	if l.open {
		l.next()
	}
}

func (l *line) ahead() {
	if !l.yield(struct{}{}) {
		panic(cutOff{})
	}
	l.port.Grant()
}

func (l *line) load(cell int) uint64 {
	l.ahead()
	return l.port.Load(cell)
}

func (l *line) store(cell int, v uint64) {
	l.ahead()
	l.port.Store(cell, v)
}

func (l *line) cas(cell int, want, put uint64) bool {
	l.ahead()
	return l.port.Cas(cell, want, put)
}

func said(status int, tasks ...api.Task) api.Reply {
	return api.Reply{Status: status, Tasks: tasks}
}
