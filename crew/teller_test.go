package crew_test

import (
	"cmp"
	"iter"
	"slices"
	"testing"

	"wayfare/api"
	"wayfare/arena"
	"wayfare/bucket"
	"wayfare/dice"
	"wayfare/multi"
	"wayfare/ring"
	"wayfare/steal"
)

// told is a run as the chapter tells it: each worker in a straight line that stands still ahead of each access. Of the program it uses what lies below: an arena, and a pool's handles.
type told struct {
	g       api.Graph
	p       api.Plan
	a       *arena.Arena
	first   []uint64
	tellers []*teller
	held    func(cells []uint64) []api.Task // of the pool
	born    []api.Task
	ended   []api.Task
	events  []api.Event
}

// handle is what the handles of all pools can do.
type handle interface {
	Insert(t api.Task) api.Errno
	Take() api.Errno
	Over() bool
	Step(p *arena.Port)
	Reply() api.Reply
}

// teller is one worker.
type teller struct {
	run   *told
	who   int
	h     handle
	port  *arena.Port
	phase int
	with  []api.Task // tasks that are with it, and not in the pool

	yield func(struct{}) bool
	next  func() (struct{}, bool)
	stop  func()
}

// cutOff ends a telling from within.
type cutOff struct{}

func extended(kind int, label, weight uint64) uint64 {
	switch kind {
	case api.KindSum:
		return label + weight
	case api.KindHops:
		return label + 1
	case api.KindMax:
		return max(label, weight)
	}
	return label
}

// tellRun lays out a run that may be.
func tellRun(t *testing.T, g api.Graph, p api.Plan) *told {
	t.Helper()
	run := &told{g: g, p: p}
	labels := slices.Repeat([]uint64{never}, g.N)
	for _, s := range p.Starts {
		labels[s.Vertex] = min(labels[s.Vertex], s.Label)
	}
	for v, label := range labels {
		if label != never {
			run.born = append(run.born, pair(label, uint64(v)))
		}
	}
	done := uint64(0)
	if len(run.born) == 0 {
		done = 1
	}
	cells, handles := run.pool(3 + g.N)
	run.first = append([]uint64{uint64(len(run.born)), done, 0}, labels...)
	run.first = append(run.first, cells...)
	run.a, _ = arena.New(len(run.first), true)
	for i, v := range run.first {
		run.a.Poke(i, v)
	}
	for who, h := range handles {
		port, _ := run.a.Port(who)
		run.tellers = append(run.tellers, &teller{run: run, who: who, h: h, port: port})
	}
	for _, m := range run.tellers {
		m.begin()
	}
	t.Cleanup(func() {
		for _, m := range run.tellers {
			m.stop()
		}
	})
	return run
}

// pool fills the pool of the plan, and opens its handles.
func (run *told) pool(base int) ([]uint64, []handle) {
	p := run.p
	draws := func(who int) *dice.Dice {
		var words []uint64
		if who < len(p.Words) {
			words = p.Words[who]
		}
		d, _ := dice.For(p.Seed, who, words)
		return d
	}
	switch p.Pool {
	case api.PoolMulti:
		m := api.Multi{Base: base, Workers: p.Workers, Per: p.Per, Cap: p.Cap, Arity: p.Arity, In: p.In, Out: p.Out, Stick: p.Stick, Tries: p.Tries}
		cells, _ := multi.Fill(m, run.born)
		return cells, opened(run, func(who int) *multi.Handle { h, _ := multi.Open(m, who, draws(who)); return h },
			func(cells []uint64, hs []*multi.Handle) []api.Task { l, _ := multi.Held(m, cells, hs); return l })
	case api.PoolRing:
		r := api.Ring{Base: base, Cap: p.Cap}
		cells, _ := ring.Fill(r, run.born)
		return cells, opened(run, func(who int) *ring.Handle { h, _ := ring.Open(r, who); return h },
			func(cells []uint64, hs []*ring.Handle) []api.Task { l, _ := ring.Held(r, cells, hs); return l })
	case api.PoolSteal:
		s := api.Steal{Base: base, Workers: p.Workers, Cap: p.Cap, Tries: p.Tries}
		cells, _ := steal.Fill(s, run.born)
		return cells, opened(run, func(who int) *steal.Handle { h, _ := steal.Open(s, who, draws(who)); return h },
			func(cells []uint64, hs []*steal.Handle) []api.Task { l, _ := steal.Held(s, cells, hs); return l })
	}
	b := api.Bucket{Base: base, Workers: p.Workers, Slots: p.Slots, Cap: p.Cap, Width: p.Width}
	cells, _ := bucket.Fill(b, run.born)
	return cells, opened(run, func(who int) *bucket.Handle { h, _ := bucket.Open(b, who); return h },
		func(cells []uint64, hs []*bucket.Handle) []api.Task { l, _ := bucket.Held(b, cells, hs); return l })
}

func opened[H handle](run *told, open func(who int) H, held func(cells []uint64, hs []H) []api.Task) []handle {
	var own []H
	var out []handle
	for who := range run.p.Workers {
		h := open(who)
		own, out = append(own, h), append(out, h)
	}
	run.held = func(cells []uint64) []api.Task { return held(cells, own) }
	return out
}

// begin goes up to the first access.
func (m *teller) begin() {
	m.next, m.stop = iter.Pull(func(yield func(struct{}) bool) {
		defer func() {
			if x := recover(); x != nil && x != (cutOff{}) {
				panic(x)
			}
		}()
		m.yield = yield
		m.tell()
		m.phase = api.PhOver
	})
	m.next()
}

// ahead stands still ahead of an access.
func (m *teller) ahead(phase int) {
	m.phase = phase
	if !m.yield(struct{}{}) {
		panic(cutOff{})
	}
	m.port.Grant()
}

func (m *teller) load(phase, cell int) uint64 {
	m.ahead(phase)
	return m.port.Load(cell)
}

func (m *teller) event(kind int, t api.Task) {
	m.run.events = append(m.run.events, api.Event{At: m.run.a.Count(), Who: m.who, Kind: kind, Task: t})
}

// tell is the chapter's worker.
func (m *teller) tell() {
	for m.load(api.PhAsk, 2) == 0 && m.load(api.PhAsk, 1) == 0 {
		m.event(api.EvTake, api.Task{})
		m.h.Take()
		for !m.h.Over() {
			m.ahead(api.PhTake)
			m.h.Step(m.port)
		}
		r := m.h.Reply()
		if r.Status == api.StEmpty {
			m.event(api.EvEmpty, api.Task{})
			continue
		}
		if r.Status == api.StFull {
			m.event(api.EvFull, api.Task{})
			m.fail()
			return
		}
		m.event(api.EvTask, r.Tasks[0])
		m.with = []api.Task{r.Tasks[0]}
		if !m.search(r.Tasks[0]) {
			m.fail()
			return
		}
	}
}

// search does what a task asks for, and tells whether there was room for what came of it.
func (m *teller) search(t api.Task) bool {
	v := int(t.Load)
	if m.load(api.PhLook, 3+v) == t.Key {
		for e := m.run.g.Start[v]; e < m.run.g.Start[v+1]; e++ {
			if !m.relax(t, e) {
				return false
			}
		}
	}
	m.ahead(api.PhEnd)
	last := m.port.Add(0, never) == 1
	m.with = nil
	m.run.ended = append(m.run.ended, t)
	if last {
		m.ahead(api.PhEnd)
		m.port.Store(1, 1)
	}
	return true
}

// relax is one edge.
func (m *teller) relax(t api.Task, e int) bool {
	end := 3 + m.run.g.To[e]
	x := extended(m.run.p.Kind, t.Key, m.run.g.Weight[e])
	for {
		y := m.load(api.PhRead, end)
		if y <= x {
			return true
		}
		m.ahead(api.PhLower)
		if m.port.Cas(end, y, x) {
			break
		}
	}
	next := pair(x, uint64(m.run.g.To[e]))
	m.run.born = append(m.run.born, next)
	m.with = []api.Task{t, next}
	m.ahead(api.PhRaise)
	m.port.Add(0, 1)
	m.with = []api.Task{t}
	m.event(api.EvInsert, next)
	m.h.Insert(next)
	for !m.h.Over() {
		m.ahead(api.PhInsert)
		m.h.Step(m.port)
	}
	if m.h.Reply().Status == api.StFull {
		m.event(api.EvFull, api.Task{})
		if m.run.p.Pool != api.PoolMulti {
			m.with = append(m.with, next)
		}
		return false
	}
	m.event(api.EvInserted, api.Task{})
	return true
}

func (m *teller) fail() {
	m.ahead(api.PhFail)
	m.port.Cas(2, 0, 1)
}

// pick is K4.
func (run *told) pick(w int) api.Turn {
	n := len(run.tellers)
	who := (w%n + n) % n
	m := run.tellers[who]
	turn := api.Turn{Who: who, Moved: m.phase != api.PhOver}
	if turn.Moved {
		m.next()
	}
	turn.Over = m.phase == api.PhOver
	return turn
}

func sortedTasks(l []api.Task) []api.Task {
	return slices.SortedFunc(slices.Values(l), func(a, b api.Task) int {
		return cmp.Or(cmp.Compare(a.Key, b.Key), cmp.Compare(a.Load, b.Load))
	})
}

// view is K6.
func (run *told) view() api.View {
	cells := run.a.Image()
	v := api.View{Born: sortedTasks(run.born), Ended: sortedTasks(run.ended), Held: run.held(cells), Pend: cells[0], Done: cells[1], Fault: cells[2]}
	for _, m := range run.tellers {
		v.Held, v.Phase = append(v.Held, m.with...), append(v.Phase, m.phase)
	}
	v.Held = sortedTasks(v.Held)
	return v
}

// outcome is K5.
func (run *told) outcome() int {
	for _, m := range run.tellers {
		if m.phase != api.PhOver {
			return api.RunOpen
		}
	}
	if fault, _ := run.a.Peek(2); fault != 0 {
		return api.RunFailed
	}
	return api.RunDone
}
