package lane_test

import (
	"math/rand"
	"slices"
	"testing"

	"wayfare/api"
	"wayfare/arena"
	"wayfare/heap"
	"wayfare/lane"
)

// held is what Hold is to tell ahead of a step.
type held struct {
	locked bool
	tasks  []api.Task
}

// model is N2 to N6 word by word, in a straight line over an arena of its own, with the heap's operations.
type model struct {
	l     api.Lane
	h     api.Heap
	a     *arena.Arena
	p     *arena.Port
	most  int // behind so many accesses its arena is stopped
	steps int
	holds []held
}

func newModel(t *testing.T, l api.Lane, cells []uint64, most int) *model {
	t.Helper()
	a := holding(t, cells)
	return &model{l: l, h: api.Heap{Base: l.Base + 2, Cap: l.Cap, Arity: l.Arity}, a: a, p: newPort(t, a), most: most}
}

func (m *model) ahead(x held) {
	m.holds = append(m.holds, x)
	if m.steps == m.most {
		m.a.Stop(api.Fault{Who: 5})
	}
	m.steps++
	m.p.Grant()
}

func (m *model) cas(who int) bool {
	m.ahead(held{})
	return m.p.Cas(m.l.Base, 0, uint64(who)+1)
}

// use makes the accesses of an operation of the heap; beside are the tasks that it knows nothing of.
func (m *model) use(o *heap.Op, beside []api.Task) api.Reply {
	for !o.Over() {
		l, _ := o.Hold(m.a.Image())
		m.ahead(held{true, sorted(append(l, beside...))})
		o.Step(m.p)
	}
	return o.Reply()
}

func (m *model) publish(beside []api.Task) {
	atRest := func() held {
		l, _ := heap.Items(m.h, m.a.Image())
		return held{true, sorted(append(l, beside...))}
	}
	m.ahead(atRest())
	top := uint64(never)
	if m.p.Load(m.l.Base+2) != 0 {
		m.ahead(atRest())
		top = m.p.Load(m.l.Base + 3)
	}
	m.ahead(atRest())
	m.p.Store(m.l.Base+1, top)
	m.ahead(atRest())
	m.p.Store(m.l.Base, 0)
}

func (m *model) push(who int, tasks []api.Task) api.Reply {
	if !m.cas(who) {
		return api.Reply{Status: api.StBusy, Tasks: tasks}
	}
	for i, x := range tasks {
		o, _ := heap.Push(m.h, x)
		if m.use(o, tasks[i+1:]).Status == api.StFull {
			m.publish(tasks[i:])
			return api.Reply{Status: api.StFull, Tasks: tasks[i:]}
		}
	}
	m.publish(nil)
	return api.Reply{Status: api.StDone}
}

func (m *model) pop(who, k int) api.Reply {
	if !m.cas(who) {
		return api.Reply{Status: api.StBusy}
	}
	var had []api.Task
	for len(had) < k {
		o, _ := heap.Pop(m.h)
		r := m.use(o, had)
		if r.Status == api.StEmpty {
			break
		}
		had = append(had, r.Tasks...)
	}
	m.publish(had)
	if len(had) == 0 {
		return api.Reply{Status: api.StEmpty}
	}
	return api.Reply{Status: api.StTask, Tasks: had}
}

// cellsByChance are an arena's: of a lane that is one, or of anything.
func cellsByChance(r *rand.Rand, l api.Lane) []uint64 {
	cells := make([]uint64, l.Base+3+2*l.Cap+r.Intn(3))
	for i := range cells {
		cells[i] = uint64(r.Intn(7))
	}
	if r.Intn(3) > 0 {
		c, _ := lane.Fill(l, chance(r, r.Intn(l.Cap+1)))
		copy(cells[l.Base:], c)
		return cells
	}
	for range r.Intn(4) {
		cells[r.Intn(len(cells))] = never - uint64(r.Intn(2))
	}
	if r.Intn(6) > 0 {
		cells[l.Base] = 0
	}
	return cells
}

// against plays an operation, and holds each step against the model's.
func against(t *testing.T, a *arena.Arena, o *lane.Op, m *model, want api.Reply) {
	t.Helper()
	p := newPort(t, a)
	for i, x := range m.holds {
		if l, e := o.Hold(a.Image()); o.Locked() != x.locked || (e == api.OK) != x.locked || !slices.Equal(l, x.tasks) {
			t.Fatalf("N5, N6: behind %d steps: Locked %v, Hold = %v, %d, want %v", i, o.Locked(), l, e, x)
		}
		if o.Over() {
			t.Fatalf("N2 to N4: over behind %d steps of %d", i, m.steps)
		}
		wantReply(t, o, api.StOpen)
		if i == m.most {
			a.Stop(api.Fault{Who: 5})
		}
		p.Grant()
		o.Step(p)
		if i < m.most && (p.Granted() || a.Count() != i+1) {
			t.Fatalf("Words: %d steps made %d accesses", i+1, a.Count())
		}
	}
	if !o.Over() || o.Locked() {
		t.Fatalf("N2 to N4: open behind %d steps", m.steps)
	}
	wantReply(t, o, want.Status, want.Tasks...)
	if got := a.Log(); !slices.Equal(got, m.a.Log()) {
		t.Fatalf("N2 to N4: accesses\n%v, want\n%v", got, m.a.Log())
	}
	if !slices.Equal(a.Image(), m.a.Image()) {
		t.Fatalf("N2 to N4: %v, want %v", a.Image(), m.a.Image())
	}
}

// compare plays one operation by chance over cells by chance, against the chapter.
func compare(t *testing.T, r *rand.Rand, most int) int {
	t.Helper()
	l := api.Lane{Base: r.Intn(3), Cap: 1 + r.Intn(12), Arity: 2 + r.Intn(4)}
	cells := cellsByChance(r, l)
	m, a, who := newModel(t, l, cells, most), holding(t, cells), r.Intn(3)
	var want api.Reply
	if r.Intn(2) == 0 {
		tasks := chance(r, 1+r.Intn(l.Cap+3))
		want = m.push(who, tasks)
		against(t, a, push(t, l, who, tasks...), m, want)
	} else {
		k := 1 + r.Intn(l.Cap+2)
		want = m.pop(who, k)
		against(t, a, pop(t, l, who, k), m, want)
	}
	return want.Status
}

// TestAgainstTheChapter: any cells, any shape: each access, each Hold and the reply are the chapter's.
func TestAgainstTheChapter(t *testing.T) {
	r := rand.New(rand.NewSource(2))
	var ends [8]int
	for range 3000 {
		ends[compare(t, r, 1<<30)]++
	}
	for _, status := range []int{api.StDone, api.StEmpty, api.StFull, api.StBusy, api.StTask} {
		if ends[status] < 50 {
			t.Errorf("only %d of the operations end with %d", ends[status], status)
		}
	}
}

// TestStoppedArena: at whatever step it is stopped, the operation goes on with 0 and false.
func TestStoppedArena(t *testing.T) {
	r := rand.New(rand.NewSource(3))
	for range 1500 {
		compare(t, r, r.Intn(30))
	}
}

// TestPortsThatLeadNowhere: a Cas that is not made has not exchanged.
func TestPortsThatLeadNowhere(t *testing.T) {
	l := api.Lane{Base: 4, Cap: 3, Arity: 2}
	few, _ := arena.New(2, true)
	for _, p := range []*arena.Port{nil, {}, newPort(t, few)} {
		pushed, popped := push(t, l, 0, pair(6, 6)), pop(t, l, 0, 2)
		for _, o := range []*lane.Op{pushed, popped} {
			p.Grant()
			o.Step(p)
		}
		wantReply(t, pushed, api.StBusy, pair(6, 6))
		wantReply(t, popped, api.StBusy)
	}
}
