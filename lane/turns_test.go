package lane_test

import (
	"cmp"
	"math/rand"
	"slices"
	"testing"

	"wayfare/api"
	"wayfare/arena"
	"wayfare/lane"
	"wayfare/loom"
)

// order is an operation that a worker is to make: a Push of tasks, or a Pop of up to k.
type order struct {
	tasks []api.Task
	k     int
}

// worker makes operations at a lane, one behind the other.
type worker struct {
	l      api.Lane
	who    int
	orders []order // the first of them is open
	op     *lane.Op
	in     []api.Task // of Pushes that got the lock
	out    []api.Task // told by Pops, handed back by Pushes that had the lock
	falls  bool       // a Pop told keys that fall
}

func newWorker(l api.Lane, who int, orders []order) *worker {
	w := &worker{l: l, who: who, orders: orders}
	w.begin()
	return w
}

func (w *worker) begin() {
	if len(w.orders) == 0 {
		return
	}
	if x := w.orders[0]; x.k > 0 {
		w.op, _ = lane.Pop(w.l, w.who, x.k)
	} else {
		w.op, _ = lane.Push(w.l, w.who, x.tasks)
	}
}

func (w *worker) Over() bool { return len(w.orders) == 0 }

func (w *worker) Step(p *arena.Port) {
	had := w.op.Locked()
	w.op.Step(p)
	if !had && w.op.Locked() {
		w.in = append(w.in, w.orders[0].tasks...)
	}
	if !w.op.Over() {
		return
	}
	if r := w.op.Reply(); r.Status != api.StBusy {
		w.out = append(w.out, r.Tasks...)
		w.falls = w.falls || r.Status == api.StTask && !slices.IsSortedFunc(r.Tasks, func(a, b api.Task) int { return cmp.Compare(a.Key, b.Key) })
	}
	w.orders = w.orders[1:]
	w.begin()
}

// crowd is workers at one lane.
type crowd struct {
	l       api.Lane
	a       *arena.Arena
	first   []api.Task
	workers []*worker
	ports   []*arena.Port
}

func newCrowd(t *testing.T, l api.Lane, first []api.Task, orders ...[]order) *crowd {
	t.Helper()
	c := &crowd{l: l, a: filled(t, l, first...), first: first}
	for who, x := range orders {
		p, _ := c.a.Port(who)
		c.workers, c.ports = append(c.workers, newWorker(l, who, x)), append(c.ports, p)
	}
	return c
}

// pick lets a worker make a step, and looks at N7.
func (c *crowd) pick(t *testing.T, who int) {
	t.Helper()
	w := c.workers[who]
	open, before := w.op, c.a.Count()
	popping, locked := len(w.orders) > 0 && w.orders[0].k > 0, w.op.Locked()
	c.ports[who].Grant()
	w.Step(c.ports[who])
	if c.a.Count() != before+1 {
		t.Fatalf("Words: a step makes %d accesses", c.a.Count()-before)
	}
	c.look(t)
	if popping && locked && open.Over() {
		c.least(t, open.Reply())
	}
}

// least: what a Pop told had the least keys of those that the lane held; nobody else has put any in since.
func (c *crowd) least(t *testing.T, r api.Reply) {
	t.Helper()
	left, _ := lane.Items(c.l, c.a.Image())
	for i, x := range r.Tasks {
		if i > 0 && x.Key < r.Tasks[i-1].Key || len(left) > 0 && x.Key > left[0].Key {
			t.Fatalf("N7: a Pop tells %v, and leaves %v", r.Tasks, left)
		}
	}
}

// look: at most one has the lock; nothing is lost, doubled or invented; the top is right.
func (c *crowd) look(t *testing.T) {
	t.Helper()
	cells := c.a.Image()
	in, out := slices.Clone(c.first), []api.Task{}
	lock, holds := uint64(0), []api.Task(nil)
	for _, w := range c.workers {
		in, out = append(in, w.in...), append(out, w.out...)
		if !w.op.Locked() {
			continue
		}
		if lock != 0 {
			t.Fatal("N7: two have the lock")
		}
		lock = uint64(w.who) + 1
		l, e := w.op.Hold(cells)
		if e != api.OK {
			t.Fatalf("N6: Hold = %d", e)
		}
		holds = l
	}
	if lock == 0 {
		holds, _ = lane.Items(c.l, cells)
		top := uint64(never)
		if len(holds) > 0 {
			top = holds[0].Key
		}
		if cells[c.l.Base+1] != top {
			t.Fatalf("N7: the top is %d, want %d", cells[c.l.Base+1], top)
		}
	}
	if cells[c.l.Base] != lock {
		t.Fatalf("N7: the lock's cell is %d, want %d", cells[c.l.Base], lock)
	}
	if got := sorted(append(out, holds...)); !slices.Equal(got, sorted(in)) {
		t.Fatalf("N7: %v went in, %v are there", sorted(in), got)
	}
}

// everyOrder plays all interleavings of a crowd, and tells how many there are.
func everyOrder(t *testing.T, build func() *crowd, picks []int) int {
	t.Helper()
	c := build()
	for i, who := range picks {
		if i == len(picks)-1 {
			c.pick(t, who)
			continue
		}
		c.ports[who].Grant() // looked at already
		c.workers[who].Step(c.ports[who])
	}
	ends := 0
	for who, w := range c.workers {
		if !w.Over() {
			ends += everyOrder(t, build, append(slices.Clone(picks), who))
		}
	}
	return max(ends, 1)
}

// TestEveryOrder: whatever the order of the steps.
func TestEveryOrder(t *testing.T) {
	l := api.Lane{Base: 1, Cap: 2, Arity: 2}
	adds := []order{{tasks: []api.Task{pair(3, 1)}}}
	addsThree := []order{{tasks: []api.Task{pair(4, 4), pair(1, 5), pair(2, 6)}}}
	takes := []order{{k: 1}}
	both := []order{{tasks: []api.Task{pair(2, 9)}}, {k: 2}}
	for i, orders := range [][][]order{
		{adds, takes},
		{addsThree, takes},
		{adds, addsThree},
		{takes, takes},
		{both, both},
		{adds, takes, takes},
		{adds, adds, both},
	} {
		for _, first := range [][]api.Task{nil, {pair(7, 0)}, {pair(7, 0), pair(5, 0)}} {
			if n := everyOrder(t, func() *crowd { return newCrowd(t, l, first, orders...) }, nil); n < 10 {
				t.Errorf("crowd %d: only %d interleavings", i, n)
			}
		}
	}
}

// ordersByChance are of one worker.
func ordersByChance(r *rand.Rand, n int) []order {
	out := make([]order, n)
	for i := range out {
		if r.Intn(2) == 0 {
			out[i].k = 1 + r.Intn(4)
		} else {
			out[i].tasks = chance(r, 1+r.Intn(4))
		}
	}
	return out
}

// TestByChance: many workers with many operations each.
func TestByChance(t *testing.T) {
	r := rand.New(rand.NewSource(4))
	for range 60 {
		l := api.Lane{Base: r.Intn(4), Cap: 1 + r.Intn(9), Arity: 2 + r.Intn(4)}
		var orders [][]order
		for range 1 + r.Intn(5) {
			orders = append(orders, ordersByChance(r, 12))
		}
		c := newCrowd(t, l, chance(r, r.Intn(l.Cap+1)), orders...)
		for {
			var open []int
			for who, w := range c.workers {
				if !w.Over() {
					open = append(open, who)
				}
			}
			if len(open) == 0 {
				break
			}
			c.pick(t, open[r.Intn(len(open))])
		}
		if at, end := arena.Replay(filled(t, l, c.first...).Image(), c.a.Log()); at != -1 || !slices.Equal(end, c.a.Image()) {
			t.Errorf("P0.16: Replay = %d", at)
		}
	}
}

// TestLive: the same workers as goroutines.
func TestLive(t *testing.T) {
	r := rand.New(rand.NewSource(5))
	for range 20 {
		l := api.Lane{Cap: 6, Arity: 2}
		c := newCrowd(t, l, chance(r, 4), ordersByChance(r, 40), ordersByChance(r, 40), ordersByChance(r, 40), ordersByChance(r, 40))
		var machines []loom.Machine
		for _, w := range c.workers {
			machines = append(machines, w)
		}
		if e := loom.Live(c.a, machines); e != api.OK {
			t.Fatalf("Live = %d", e)
		}
		c.look(t)
		for _, w := range c.workers {
			if w.falls {
				t.Error("N7: a Pop tells keys that fall")
			}
		}
	}
}

// TestTwoInTurns: one has the lock, the other is told StBusy, and has it when it comes again.
func TestTwoInTurns(t *testing.T) {
	l := api.Lane{Cap: 2, Arity: 2}
	a := filled(t, l, pair(5, 5))
	taker := pop(t, l, 0, 1)
	for steps := 0; !taker.Over(); steps++ {
		adder := push(t, l, 1, pair(1, 1))
		if steps > 0 {
			step(t, a, adder)
			wantReply(t, adder, api.StBusy, pair(1, 1))
		}
		step(t, a, taker)
		if taker.Locked() == taker.Over() {
			t.Errorf("N5: behind %d steps: Locked %v", steps+1, taker.Locked())
		}
	}
	wantReply(t, taker, api.StTask, pair(5, 5))
	wantCell(t, a, 1, never)
	adder := push(t, l, 1, pair(1, 1))
	play(t, a, adder)
	wantReply(t, adder, api.StDone)
	wantCell(t, a, 1, 1)
}
