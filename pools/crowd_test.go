package pools_test

import (
	"math/rand"
	"slices"
	"testing"

	"wayfare/api"
	"wayfare/arena"
	"wayfare/dice"
	"wayfare/loom"
)

// order is an operation that a worker is to make: an Insert of a task, or a Take.
type order struct {
	take bool
	task api.Task
}

func insert(key, load uint64) order { return order{task: pair(key, load)} }

var take = order{take: true}

// worker makes operations by one handle, one behind the other: a machine.
type worker struct {
	h      handle
	keeps  bool
	orders []order // the first of them is open
	in     []api.Task
	out    []api.Task // told by Takes, handed back by Inserts
	odd    string     // what no operation may come to
}

// begin begins operations up to one that is not over at once.
func (w *worker) begin() {
	for len(w.orders) > 0 {
		if x := w.orders[0]; x.take {
			w.h.Take()
		} else {
			w.in = append(w.in, x.task)
			w.h.Insert(x.task)
		}
		if !w.h.Over() {
			return
		}
		w.settle()
	}
}

// settle takes up what an operation has come to.
func (w *worker) settle() {
	x, r := w.orders[0], w.h.Reply()
	w.orders = w.orders[1:]
	switch {
	case x.take && r.Status == api.StTask && len(r.Tasks) == 1:
		w.out = append(w.out, r.Tasks...)
	case x.take && r.Status == api.StEmpty && len(r.Tasks) == 0:
	case !x.take && r.Status == api.StDone && len(r.Tasks) == 0:
	case w.keeps && r.Status == api.StFull && len(r.Tasks) > 0: // in the handle
	case !x.take && r.Status == api.StFull && slices.Equal(r.Tasks, []api.Task{x.task}):
		w.out = append(w.out, r.Tasks...)
	default:
		w.odd = "an odd reply"
	}
}

func (w *worker) Over() bool { return len(w.orders) == 0 }

func (w *worker) Step(p *arena.Port) {
	if w.h.Step(p); w.h.Over() {
		w.settle()
		w.begin()
	}
}

// crowd is the workers of one pool.
type crowd struct {
	p       pool
	a       *arena.Arena
	first   []api.Task
	hs      []handle
	workers []*worker
	ports   []*arena.Port
}

func newCrowd(t *testing.T, p pool, seed uint64, first []api.Task, orders ...[]order) *crowd {
	t.Helper()
	c := &crowd{p: p, a: arenaOf(t, p, first), first: first}
	c.hs = openAll(t, p, func(who int) *dice.Dice {
		d, _ := dice.For(seed, who, nil)
		return d
	})
	for who, h := range c.hs {
		w := &worker{h: h, keeps: p.keeps}
		if who < len(orders) {
			w.orders = orders[who]
		}
		w.begin()
		c.workers, c.ports = append(c.workers, w), append(c.ports, portOf(c.a, who))
	}
	c.look(t)
	return c
}

// step lets a worker make a step, which is one access.
func (c *crowd) step(t *testing.T, who int) {
	t.Helper()
	ahead := c.a.Count()
	c.ports[who].Grant()
	if c.workers[who].Step(c.ports[who]); c.a.Count() != ahead+1 {
		t.Fatalf("%s: Words: a step makes %d accesses", c.p.name, c.a.Count()-ahead)
	}
}

// look: what is held is what was filled in and inserted less what was answered and handed back, each as often.
func (c *crowd) look(t *testing.T) {
	t.Helper()
	in, out := slices.Clone(c.first), []api.Task{}
	for _, w := range c.workers {
		in, out = append(in, w.in...), append(out, w.out...)
		if w.odd != "" {
			t.Fatalf("%s: %s", c.p.name, w.odd)
		}
	}
	held, e := c.p.held(c.a.Image(), c.hs)
	if e != api.OK || !slices.Equal(held, sorted(held)) {
		t.Fatalf("%s: Held = %v, %d", c.p.name, held, e)
	}
	if got := sorted(append(out, held...)); !slices.Equal(got, sorted(in)) {
		t.Fatalf("%s: M6, N9, K7, U6: %v went in, %v came out or are held", c.p.name, sorted(in), got)
	}
}

func (c *crowd) awake() []int {
	var out []int
	for who, w := range c.workers {
		if !w.Over() {
			out = append(out, who)
		}
	}
	return out
}

// everyOrder plays all interleavings of a crowd in which the workers do not change more than so many times while the one ahead could go on; it tells how many there are.
func everyOrder(t *testing.T, build func() *crowd, changes int, picks []int) int {
	t.Helper()
	c := build()
	for _, who := range picks {
		c.step(t, who)
	}
	c.look(t) // those ahead of it were looked at already
	if len(picks) > 400 {
		t.Fatalf("%s: an operation without an end", c.p.name)
	}
	ends, last := 0, -1
	if len(picks) > 0 {
		last = picks[len(picks)-1]
	}
	for _, who := range c.awake() {
		left := changes
		if last >= 0 && who != last && !c.workers[last].Over() {
			left--
		}
		if left >= 0 {
			ends += everyOrder(t, build, left, append(slices.Clone(picks), who))
		}
	}
	return max(ends, 1)
}

const anyChanges = 1 << 30

// TestEveryOrder: whatever the order of the steps of two workers, and of three with few changes.
func TestEveryOrder(t *testing.T) {
	ring2, ring3 := ringPool(api.Ring{Base: 1, Cap: 2}, 2), ringPool(api.Ring{Cap: 2}, 3)
	steal2, steal3 := stealPool(api.Steal{Base: 1, Workers: 2, Cap: 2, Tries: 1}), stealPool(api.Steal{Workers: 3, Cap: 2, Tries: 1})
	bucket2, bucket3 := bucketPool(api.Bucket{Base: 1, Workers: 2, Slots: 2, Cap: 2, Width: 4}), bucketPool(api.Bucket{Workers: 3, Slots: 1, Cap: 2, Width: 4})
	multi2 := multiPool(api.Multi{Base: 1, Workers: 2, Per: 1, Cap: 2, Arity: 2, In: 0, Out: 1, Stick: 1, Tries: 1})
	multi3 := multiPool(api.Multi{Workers: 2, Per: 1, Cap: 1, Arity: 2, In: 2, Out: 2, Stick: 2, Tries: 1})
	adds, takes := []order{insert(3, 1)}, []order{take}
	addsTakes, takesAdds := []order{insert(5, 2), take}, []order{take, insert(1, 3)}
	for i, c := range []struct {
		p       pool
		changes int
		first   []api.Task
		orders  [][]order
	}{
		{ring2, anyChanges, nil, [][]order{adds, takes}},
		{ring2, anyChanges, nil, [][]order{addsTakes, takes}},
		{ring2, anyChanges, []api.Task{pair(9, 9)}, [][]order{adds, {insert(4, 4)}}},
		{ring2, 5, []api.Task{pair(9, 9), pair(7, 7)}, [][]order{takesAdds, takes}},
		{ring2, 3, []api.Task{pair(9, 9)}, [][]order{addsTakes, takesAdds}},
		{ring3, 3, []api.Task{pair(9, 9)}, [][]order{takes, takes, adds}},
		{steal2, anyChanges, []api.Task{pair(9, 9)}, [][]order{takes, takes}},
		{steal2, anyChanges, []api.Task{pair(9, 9), pair(8, 8), pair(7, 7)}, [][]order{adds, takes}},
		{steal2, 5, nil, [][]order{addsTakes, takes}},
		{steal2, 4, []api.Task{pair(9, 9), pair(8, 8)}, [][]order{takesAdds, takesAdds}},
		{steal3, 2, []api.Task{pair(9, 9)}, [][]order{takes, takes, takes}},
		{bucket2, anyChanges, []api.Task{pair(9, 9)}, [][]order{takes, takes}},
		{bucket2, anyChanges, []api.Task{pair(2, 2), pair(1, 1)}, [][]order{takes, {take}}},
		{bucket3, 4, []api.Task{pair(9, 9)}, [][]order{takes, takes, takes}},
		{multi2, 3, nil, [][]order{takes, takes}},
		{multi2, 4, []api.Task{pair(9, 9), pair(8, 8)}, [][]order{takes, takes}},
	} {
		if n := everyOrder(t, func() *crowd { return newCrowd(t, c.p, 5, c.first, c.orders...) }, c.changes, nil); n < 20 {
			t.Errorf("crowd %d: only %d interleavings", i, n)
		}
	}
	// These wait for locks, or draw until they find one: the steps of one alone may be without an end.
	for i, c := range []struct {
		p      pool
		first  []api.Task
		orders [][]order
	}{
		{bucket2, nil, [][]order{adds, {insert(2, 2)}}},
		{bucket2, []api.Task{pair(9, 9)}, [][]order{addsTakes, takesAdds}},
		{bucket3, []api.Task{pair(9, 9)}, [][]order{adds, takes, adds}},
		{multi2, nil, [][]order{adds, takes}},
		{multi2, []api.Task{pair(9, 9), pair(8, 8), pair(7, 7), pair(6, 6)}, [][]order{adds, takes}},
		{multi3, []api.Task{pair(9, 9)}, [][]order{{insert(1, 1), insert(2, 2), take}, {take, insert(3, 3), take}}},
	} {
		if n := everyBurst(t, func() *crowd { return newCrowd(t, c.p, 5, c.first, c.orders...) }, nil); n < 20 {
			t.Errorf("waiting crowd %d: only %d interleavings", i, n)
		}
	}
}

// everyBurst plays all interleavings in which each worker goes on for 0 to some steps, then the next one, and so on, twice, and then all in turns to the end: M9's way of coming to one.
func everyBurst(t *testing.T, build func() *crowd, bursts []int) int {
	t.Helper()
	if len(bursts) == 3 {
		c := build()
		for i, n := range bursts {
			c.goOn(t, i%len(c.workers), n)
		}
		c.inTurns(t)
		return 1
	}
	ends := 0
	for n := range 12 {
		ends += everyBurst(t, build, append(slices.Clone(bursts), n))
	}
	return ends
}

func (c *crowd) goOn(t *testing.T, who, n int) {
	t.Helper()
	for range n {
		if c.workers[who].Over() {
			return
		}
		c.step(t, who)
		c.look(t)
	}
}

// inTurns: if no operation waits for one that is not begun, each open one ends.
func (c *crowd) inTurns(t *testing.T) {
	t.Helper()
	for i := 0; len(c.awake()) > 0; i++ {
		if i > 4000 {
			t.Fatalf("%s: M9: in turns, and no end", c.p.name)
		}
		for _, who := range c.awake() {
			c.step(t, who)
			c.look(t)
		}
	}
}

func ordersByChance(r *rand.Rand, n int) []order {
	out := make([]order, n)
	for i := range out {
		if r.Intn(2) == 0 {
			out[i] = take
		} else {
			out[i] = order{task: taskByChance(r)}
		}
	}
	return out
}

func crowdByChance(t *testing.T, r *rand.Rand, p pool, n int) *crowd {
	t.Helper()
	var orders [][]order
	for range p.workers {
		orders = append(orders, ordersByChance(r, n))
	}
	return newCrowd(t, p, r.Uint64(), fillByChance(r, p), orders...)
}

// TestNothingIsLost: many operations in any order; what is made again from the log ends with the same cells.
func TestNothingIsLost(t *testing.T) {
	for name, shape := range byChance {
		r := rand.New(rand.NewSource(6))
		for range 120 {
			p := shape(r)
			c := crowdByChance(t, r, p, 12)
			for range 5000 {
				awake := c.awake()
				if len(awake) == 0 {
					break
				}
				c.step(t, awake[r.Intn(len(awake))])
				c.look(t)
			}
			if n := len(c.awake()); n > 0 {
				t.Errorf("%s: %d workers are not over", name, n)
			}
			if at, end := arena.Replay(arenaOf(t, p, c.first).Image(), c.a.Log()); at != -1 || !slices.Equal(end, c.a.Image()) {
				t.Errorf("%s: P0.16: Replay = %d", name, at)
			}
		}
	}
}

// TestLive: the same workers as goroutines.
func TestLive(t *testing.T) {
	for name, shape := range byChance {
		r := rand.New(rand.NewSource(7))
		for range 25 {
			c := crowdByChance(t, r, shape(r), 30)
			var machines []loom.Machine
			for _, w := range c.workers {
				machines = append(machines, w)
			}
			if e := loom.Live(c.a, machines); e != api.OK {
				t.Fatalf("%s: Live = %d", name, e)
			}
			c.look(t)
		}
	}
}

// TestOneAnswer: what is answered hangs on tasks, draws and the order of the steps, on nothing else.
func TestOneAnswer(t *testing.T) {
	for name, shape := range byChance {
		var logs [2][]api.Access
		for i := range logs {
			r := rand.New(rand.NewSource(8))
			for range 10 {
				c := crowdByChance(t, r, shape(r), 10)
				c.inTurns(t)
				logs[i] = append(logs[i], c.a.Log()...)
			}
		}
		if len(logs[0]) == 0 || !slices.Equal(logs[0], logs[1]) {
			t.Errorf("%s: P0.5: the same once more is not the same", name)
		}
	}
}
