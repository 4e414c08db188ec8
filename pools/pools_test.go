// Package pools_test holds the four pools to what their chapters say alike: it has tests only.
package pools_test

import (
	"math/rand"
	"slices"
	"testing"

	"wayfare/api"
	"wayfare/arena"
	"wayfare/bucket"
	"wayfare/dice"
	"wayfare/multi"
	"wayfare/ring"
	"wayfare/steal"
)

const never = api.Never

// handle is what the handles of all pools can do.
type handle interface {
	Insert(t api.Task) api.Errno
	Take() api.Errno
	Over() bool
	Step(p *arena.Port)
	Reply() api.Reply
}

// pool is one of the four, in one shape.
type pool struct {
	name    string
	base    int
	workers int
	keeps   bool // what finds no room stays in the handle; else it is handed back
	cells   func() (int, api.Errno)
	fill    func(tasks []api.Task) ([]uint64, api.Errno)
	open    func(who int, d *dice.Dice) (handle, api.Errno)
	held    func(cells []uint64, hs []handle) ([]api.Task, api.Errno)
	tell    func(l *line, who int, d *dice.Dice) teller
}

// opened keeps a nil handle from becoming an interface that is not nil.
func opened[H handle](h H, e api.Errno) (handle, api.Errno) {
	if e != api.OK {
		return nil, e
	}
	return h, e
}

// handlesOf are handles as their own type.
func handlesOf[H handle](hs []handle) []H {
	out := make([]H, len(hs))
	for i, h := range hs {
		out[i], _ = h.(H)
	}
	return out
}

func multiPool(m api.Multi) pool {
	return pool{
		name: "multi", base: m.Base, workers: m.Workers, keeps: true,
		cells: func() (int, api.Errno) { return multi.Cells(m) },
		fill:  func(tasks []api.Task) ([]uint64, api.Errno) { return multi.Fill(m, tasks) },
		open:  func(who int, d *dice.Dice) (handle, api.Errno) { return opened(multi.Open(m, who, d)) },
		held: func(cells []uint64, hs []handle) ([]api.Task, api.Errno) {
			return multi.Held(m, cells, handlesOf[*multi.Handle](hs))
		},
		tell: func(l *line, who int, d *dice.Dice) teller { return &multiTeller{line: l, m: m, who: who, d: d} },
	}
}

func ringPool(r api.Ring, workers int) pool {
	return pool{
		name: "ring", base: r.Base, workers: workers,
		cells: func() (int, api.Errno) { return ring.Cells(r) },
		fill:  func(tasks []api.Task) ([]uint64, api.Errno) { return ring.Fill(r, tasks) },
		open:  func(who int, d *dice.Dice) (handle, api.Errno) { return opened(ring.Open(r, who)) },
		held: func(cells []uint64, hs []handle) ([]api.Task, api.Errno) {
			return ring.Held(r, cells, handlesOf[*ring.Handle](hs))
		},
		tell: func(l *line, who int, d *dice.Dice) teller { return &ringTeller{line: l, r: r} },
	}
}

func stealPool(s api.Steal) pool {
	return pool{
		name: "steal", base: s.Base, workers: s.Workers,
		cells: func() (int, api.Errno) { return steal.Cells(s) },
		fill:  func(tasks []api.Task) ([]uint64, api.Errno) { return steal.Fill(s, tasks) },
		open:  func(who int, d *dice.Dice) (handle, api.Errno) { return opened(steal.Open(s, who, d)) },
		held: func(cells []uint64, hs []handle) ([]api.Task, api.Errno) {
			return steal.Held(s, cells, handlesOf[*steal.Handle](hs))
		},
		tell: func(l *line, who int, d *dice.Dice) teller { return &stealTeller{line: l, s: s, who: who, d: d} },
	}
}

func bucketPool(b api.Bucket) pool {
	return pool{
		name: "bucket", base: b.Base, workers: b.Workers,
		cells: func() (int, api.Errno) { return bucket.Cells(b) },
		fill:  func(tasks []api.Task) ([]uint64, api.Errno) { return bucket.Fill(b, tasks) },
		open:  func(who int, d *dice.Dice) (handle, api.Errno) { return opened(bucket.Open(b, who)) },
		held: func(cells []uint64, hs []handle) ([]api.Task, api.Errno) {
			return bucket.Held(b, cells, handlesOf[*bucket.Handle](hs))
		},
		tell: func(l *line, who int, d *dice.Dice) teller { return &bucketTeller{line: l, b: b, who: who} },
	}
}

// byChance are the four, each in a shape by chance that is small enough to be full, empty and fought for often.
var byChance = map[string]func(r *rand.Rand) pool{
	"multi": func(r *rand.Rand) pool {
		return multiPool(api.Multi{Base: r.Intn(3), Workers: 1 + r.Intn(3), Per: 1 + r.Intn(2), Cap: 1 + r.Intn(4), Arity: 2 + r.Intn(2), In: r.Intn(4), Out: 1 + r.Intn(3), Stick: 1 + r.Intn(3), Tries: 1 + r.Intn(3)})
	},
	"ring": func(r *rand.Rand) pool {
		return ringPool(api.Ring{Base: r.Intn(3), Cap: 2 + r.Intn(3)}, 1+r.Intn(4))
	},
	"steal": func(r *rand.Rand) pool {
		return stealPool(api.Steal{Base: r.Intn(3), Workers: 1 + r.Intn(4), Cap: 1 + r.Intn(3), Tries: 1 + r.Intn(3)})
	},
	"bucket": func(r *rand.Rand) pool {
		return bucketPool(api.Bucket{Base: r.Intn(3), Workers: 1 + r.Intn(4), Slots: 1 + r.Intn(3), Cap: 1 + r.Intn(3), Width: 1 + uint64(r.Intn(3))})
	},
}

func pair(key, load uint64) api.Task { return api.Task{Key: key, Load: load} }

// sorted is a sorted copy.
func sorted(l []api.Task) []api.Task {
	out := slices.Clone(l)
	slices.SortFunc(out, func(a, b api.Task) int {
		switch {
		case a == b:
			return 0
		case a.Key < b.Key || a.Key == b.Key && a.Load < b.Load:
			return -1
		}
		return 1
	})
	return out
}

// taskByChance is often like another one.
func taskByChance(r *rand.Rand) api.Task {
	if r.Intn(12) == 0 {
		return pair(never-1-uint64(r.Intn(2)), r.Uint64())
	}
	return pair(uint64(r.Intn(7)), uint64(r.Intn(4)))
}

// fillByChance is as many tasks as go in, or fewer.
func fillByChance(r *rand.Rand, p pool) []api.Task {
	tasks := []api.Task{}
	for range r.Intn(8) {
		more := append(slices.Clone(tasks), taskByChance(r))
		if _, e := p.fill(more); e != api.OK {
			break
		}
		tasks = more
	}
	return tasks
}

// arenaOf is an arena that ends with the pool's cells, filled.
func arenaOf(t *testing.T, p pool, tasks []api.Task) *arena.Arena {
	t.Helper()
	cells, e := p.fill(tasks)
	n, f := p.cells()
	if e != api.OK || f != api.OK || len(cells) != n {
		t.Fatalf("%s: Fill of %d = %d cells, %d; Cells = %d, %d", p.name, len(tasks), len(cells), e, n, f)
	}
	return arenaWith(t, append(make([]uint64, p.base), cells...))
}

func arenaWith(t *testing.T, cells []uint64) *arena.Arena {
	t.Helper()
	a, e := arena.New(len(cells), true)
	if e != api.OK {
		t.Fatalf("New = %d", e)
	}
	for i, v := range cells {
		a.Poke(i, v)
	}
	return a
}

func portOf(a *arena.Arena, who int) *arena.Port {
	p, _ := a.Port(who)
	return p
}

func openAll(t *testing.T, p pool, d func(who int) *dice.Dice) []handle {
	t.Helper()
	var hs []handle
	for who := range p.workers {
		h, e := p.open(who, d(who))
		if h == nil || e != api.OK {
			t.Fatalf("%s: Open(%d) = %d", p.name, who, e)
		}
		hs = append(hs, h)
	}
	return hs
}

// sameReply tells whether two are alike; nil and no tasks are.
func sameReply(a, b api.Reply) bool {
	return a.Status == b.Status && slices.Equal(a.Tasks, b.Tasks)
}
