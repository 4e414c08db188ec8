package heap_test

import (
	"math/rand"
	"slices"
	"testing"

	"wayfare/api"
	"wayfare/arena"
	"wayfare/heap"
)

// model is chapter 11 word by word, in a straight line: it keeps the accesses, and what is held ahead of each of them and behind the last.
type model struct {
	h     api.Heap
	cells []uint64
	most  int // so many accesses are made; those behind them find a stopped arena
	steps int
	log   []api.Access
	holds [][]api.Task
	hold  func() []api.Task
}

func (m *model) step() bool {
	m.holds = append(m.holds, sorted(m.hold()))
	m.steps++
	return m.steps <= m.most
}

func (m *model) load(cell int) uint64 {
	if !m.step() {
		return 0
	}
	v := m.cells[cell]
	m.log = append(m.log, api.Access{Kind: api.AccLoad, Cell: cell, Seen: v, Left: v, Ok: true})
	return v
}

func (m *model) store(cell int, v uint64) {
	if !m.step() {
		return
	}
	m.log = append(m.log, api.Access{Kind: api.AccStore, Cell: cell, Put: v, Seen: m.cells[cell], Left: v, Ok: true})
	m.cells[cell] = v
}

func (m *model) key(i int) int   { return m.h.Base + 1 + 2*i }
func (m *model) value(i int) int { return m.h.Base + 2 + 2*i }

func (m *model) count(v uint64) int {
	if v > uint64(m.h.Cap) {
		return m.h.Cap
	}
	return int(v)
}

// places are the tasks from the place 0 up to the place end - 1, but one.
func (m *model) places(end, but int) []api.Task {
	var out []api.Task
	for i := range end {
		if i != but {
			out = append(out, pair(m.cells[m.key(i)], m.cells[m.value(i)]))
		}
	}
	return out
}

func (m *model) items() []api.Task {
	return m.places(m.count(m.cells[m.h.Base]), -1)
}

func (m *model) over(status int, tasks ...api.Task) api.Reply {
	m.holds = append(m.holds, sorted(m.items()))
	return api.Reply{Status: status, Tasks: tasks}
}

func (m *model) push(t api.Task) api.Reply {
	m.hold = func() []api.Task { return append(m.items(), t) }
	n := m.count(m.load(m.h.Base))
	if n == m.h.Cap {
		return m.over(api.StFull, t)
	}
	i := n
	m.hold = func() []api.Task { return append(m.places(n+1, i), t) }
	for i > 0 {
		j := (i - 1) / m.h.Arity
		k := m.load(m.key(j))
		if k <= t.Key {
			break
		}
		v := m.load(m.value(j))
		m.store(m.key(i), k)
		m.store(m.value(i), v)
		i = j
	}
	m.store(m.key(i), t.Key)
	m.store(m.value(i), t.Load)
	m.store(m.h.Base, uint64(n+1))
	return m.over(api.StDone)
}

func (m *model) pop() api.Reply {
	m.hold = m.items
	n := m.count(m.load(m.h.Base))
	if n == 0 {
		return m.over(api.StEmpty)
	}
	k := m.load(m.key(0))
	r := pair(k, m.load(m.value(0)))
	m.store(m.h.Base, uint64(n-1))
	if n == 1 {
		return m.over(api.StTask, r)
	}
	i := 0
	m.hold = func() []api.Task { return append(m.places(n, i), r) }
	k = m.load(m.key(n - 1))
	x := pair(k, m.load(m.value(n-1)))
	for {
		var keys []uint64
		first := m.h.Arity*i + 1
		for c := first; c <= m.h.Arity*i+m.h.Arity && c <= n-2; c++ {
			keys = append(keys, m.load(m.key(c)))
		}
		if len(keys) == 0 || slices.Min(keys) >= x.Key {
			break
		}
		least := slices.Min(keys)
		to := first + slices.Index(keys, least)
		v := m.load(m.value(to))
		m.store(m.key(i), least)
		m.store(m.value(i), v)
		i = to
	}
	m.store(m.key(i), x.Key)
	m.store(m.value(i), x.Load)
	return m.over(api.StTask, r)
}

func (m *model) peek() api.Reply {
	m.hold = m.items
	if m.load(m.h.Base) == 0 {
		return m.over(api.StEmpty)
	}
	k := m.load(m.key(0))
	return m.over(api.StTask, pair(k, m.load(m.value(0))))
}

// cellsByChance are an arena's: of a heap that is one, or of anything.
func cellsByChance(r *rand.Rand, h api.Heap) []uint64 {
	cells := make([]uint64, h.Base+1+2*h.Cap+r.Intn(3))
	for i := range cells {
		cells[i] = uint64(r.Intn(7))
	}
	if r.Intn(2) == 0 {
		l, _ := heap.Fill(h, chance(r, r.Intn(h.Cap+1)))
		copy(cells[h.Base:], l)
		return cells
	}
	for range r.Intn(3) {
		cells[r.Intn(len(cells))] = never - uint64(r.Intn(2))
	}
	cells[h.Base] = uint64(r.Intn(h.Cap + 3))
	if r.Intn(5) == 0 {
		cells[h.Base] = never - uint64(r.Intn(2))
	}
	return cells
}

// both makes an operation, and lets the model play the same.
func both(t *testing.T, m *model, kind int, x api.Task) (*heap.Op, api.Reply) {
	t.Helper()
	switch kind {
	case 0:
		return push(t, m.h, x), m.push(x)
	case 1:
		return pop(t, m.h), m.pop()
	}
	return peek(t, m.h), m.peek()
}

// against plays an operation, and holds each step against the model's.
func against(t *testing.T, a *arena.Arena, o *heap.Op, m *model, want api.Reply) {
	t.Helper()
	p := newPort(t, a)
	for i := range m.steps {
		wantHold(t, o, a.Image(), m.holds[i])
		if o.Over() {
			t.Fatalf("the chapter's operations: over behind %d steps of %d", i, m.steps)
		}
		wantReply(t, o, api.StOpen)
		if i == m.most {
			a.Stop(api.Fault{Who: 5})
		}
		p.Grant()
		o.Step(p)
		if i < m.most && (p.Granted() || a.Count() != i+1) {
			t.Fatalf("H5: step %d made %d accesses", i, a.Count())
		}
	}
	if !o.Over() {
		t.Fatalf("the chapter's operations: open behind %d steps", m.steps)
	}
	wantReply(t, o, want.Status, want.Tasks...)
	wantHold(t, o, a.Image(), m.holds[m.steps])
	if got := a.Log(); !slices.Equal(got, m.log) {
		t.Fatalf("the chapter's operations: accesses\n%v, want\n%v", got, m.log)
	}
	p.Grant()
	o.Step(p)
	if !p.Granted() || a.Count() != len(m.log) || !o.Over() {
		t.Error("H5: a step of one that is over does something")
	}
	wantReply(t, o, want.Status, want.Tasks...)
}

// TestAgainstTheChapter: any cells, any shape: each access, each Hold and the reply are the chapter's.
func TestAgainstTheChapter(t *testing.T) {
	r := rand.New(rand.NewSource(3))
	var ends [8]int
	for range 6000 {
		h := api.Heap{Base: r.Intn(3), Cap: 1 + r.Intn(24), Arity: 2 + r.Intn(4)}
		if r.Intn(10) == 0 {
			h.Arity = api.MaxArity
		}
		cells := cellsByChance(r, h)
		m := &model{h: h, cells: slices.Clone(cells), most: 1 << 30}
		o, want := both(t, m, r.Intn(3), pair(uint64(r.Intn(7)), uint64(r.Intn(7))))
		against(t, newArena(t, h, cells), o, m, want)
		ends[want.Status]++
	}
	for _, status := range []int{api.StDone, api.StEmpty, api.StFull, api.StTask} {
		if ends[status] < 100 {
			t.Errorf("only %d of the operations end with %d", ends[status], status)
		}
	}
}

// TestStoppedArena: at whatever step it is stopped, the operation goes on with 0.
func TestStoppedArena(t *testing.T) {
	r := rand.New(rand.NewSource(4))
	for range 1500 {
		h := api.Heap{Base: r.Intn(3), Cap: 1 + r.Intn(24), Arity: 2 + r.Intn(4)}
		cells := cellsByChance(r, h)
		m := &model{h: h, cells: slices.Clone(cells), most: r.Intn(20)}
		o, want := both(t, m, r.Intn(3), pair(uint64(r.Intn(7)), uint64(r.Intn(7))))
		against(t, newArena(t, h, cells), o, m, want)
	}
}
