package pools_test

import (
	"slices"

	"wayfare/api"
	"wayfare/dice"
	"wayfare/lane"
)

// draw is a draw by dice that may not be there.
func draw(d *dice.Dice, n int) int {
	if d == nil {
		return 0
	}
	v, _ := d.Below(uint64(n))
	return int(v)
}

// ringTeller is N6 to N8 of chapter 14.
type ringTeller struct {
	*line
	r       api.Ring
	mine    *api.Task // of an open Insert
	claimed *uint64   // the place that an open Take has claimed
}

func (m *ringTeller) slot(p uint64) int { return m.r.Base + 2 + 3*int(p%uint64(m.r.Cap)) }

func (m *ringTeller) insert(t api.Task) api.Reply {
	m.mine = &t
	defer func() { m.mine = nil }()
	for {
		p := m.load(m.r.Base)
		s := m.load(m.slot(p))
		if s < p {
			return said(api.StFull, t)
		}
		if s > p || !m.cas(m.r.Base, p, p+1) {
			continue
		}
		m.store(m.slot(p)+1, t.Key)
		m.store(m.slot(p)+2, t.Load)
		m.store(m.slot(p), p+1)
		return said(api.StDone)
	}
}

func (m *ringTeller) take() api.Reply {
	defer func() { m.claimed = nil }()
	for {
		p := m.load(m.r.Base + 1)
		s := m.load(m.slot(p))
		if s < p+1 {
			return said(api.StEmpty)
		}
		if s > p+1 || !m.cas(m.r.Base+1, p, p+1) {
			continue
		}
		m.claimed = &p
		key := m.load(m.slot(p) + 1)
		load := m.load(m.slot(p) + 2)
		m.store(m.slot(p), p+uint64(m.r.Cap))
		return said(api.StTask, pair(key, load))
	}
}

func (m *ringTeller) held(cells []uint64, all []teller) []api.Task {
	var out []api.Task
	tail, head := cells[m.r.Base], cells[m.r.Base+1]
	for j := range m.r.Cap {
		at := m.r.Base + 2 + 3*j
		if s := cells[at]; s != 0 && int((s-1)%uint64(m.r.Cap)) == j && s-1 >= head && s-1 < tail {
			out = append(out, pair(cells[at+1], cells[at+2]))
		}
	}
	for _, x := range all {
		h := x.(*ringTeller)
		if h.mine != nil {
			out = append(out, *h.mine)
		}
		if h.claimed != nil {
			at := h.slot(*h.claimed)
			out = append(out, pair(cells[at+1], cells[at+2]))
		}
	}
	return sorted(out)
}

// stealTeller is K3 to K6 of chapter 15.
type stealTeller struct {
	*line
	s    api.Steal
	who  int
	d    *dice.Dice
	mine *api.Task // of an open Insert; of a Take whose Cas exchanged
	b    *uint64   // of a Take behind its Store of b - 1
}

func (m *stealTeller) top(w int) int    { return m.s.Base + w*(2+2*m.s.Cap) }
func (m *stealTeller) bottom(w int) int { return m.top(w) + 1 }
func (m *stealTeller) slot(w int, x uint64) int {
	return m.top(w) + 2 + 2*int(x%uint64(m.s.Cap))
}

func (m *stealTeller) insert(t api.Task) api.Reply {
	m.mine = &t
	defer func() { m.mine = nil }()
	b := m.load(m.bottom(m.who))
	t0 := m.load(m.top(m.who))
	if b-t0 >= uint64(m.s.Cap) {
		return said(api.StFull, t)
	}
	m.store(m.slot(m.who, b), t.Key)
	m.store(m.slot(m.who, b)+1, t.Load)
	m.store(m.bottom(m.who), b+1)
	return said(api.StDone)
}

func (m *stealTeller) read(w int, x uint64) api.Task {
	key := m.load(m.slot(w, x))
	return pair(key, m.load(m.slot(w, x)+1))
}

func (m *stealTeller) take() api.Reply {
	defer func() { m.mine, m.b = nil, nil }()
	if t, is := m.own(); is {
		return said(api.StTask, t)
	}
	for range m.s.Tries {
		v := draw(m.d, m.s.Workers)
		if v == m.who {
			continue
		}
		if t, is := m.steal(v); is {
			return said(api.StTask, t)
		}
	}
	for v := range m.s.Workers {
		if v == m.who {
			continue
		}
		if t, is := m.steal(v); is {
			return said(api.StTask, t)
		}
	}
	return said(api.StEmpty)
}

func (m *stealTeller) own() (api.Task, bool) {
	b := m.load(m.bottom(m.who))
	m.store(m.bottom(m.who), b-1)
	m.b = &b
	t0 := m.load(m.top(m.who))
	if t0 < b-1 {
		return m.read(m.who, b-1), true
	}
	var t api.Task
	if t0 == b-1 {
		t = m.read(m.who, b-1)
		if m.cas(m.top(m.who), t0, t0+1) {
			m.mine = &t
		}
	}
	m.store(m.bottom(m.who), b)
	m.b = nil
	return t, m.mine != nil
}

func (m *stealTeller) steal(v int) (api.Task, bool) {
	t0 := m.load(m.top(v))
	b := m.load(m.bottom(v))
	if t0 >= b {
		return api.Task{}, false
	}
	t := m.read(v, t0)
	return t, m.cas(m.top(v), t0, t0+1)
}

func (m *stealTeller) held(cells []uint64, all []teller) []api.Task {
	var out []api.Task
	for w, x := range all {
		h := x.(*stealTeller)
		top, bottom := cells[m.top(w)], cells[m.bottom(w)]
		if h.b != nil {
			bottom = *h.b
		}
		for i := top; bottom > top && i != bottom && i-top < uint64(m.s.Cap); i++ {
			out = append(out, pair(cells[m.slot(w, i)], cells[m.slot(w, i)+1]))
		}
		if h.mine != nil {
			out = append(out, *h.mine)
		}
	}
	return sorted(out)
}

// bucketTeller is U3 to U5 of chapter 20.
type bucketTeller struct {
	*line
	b    api.Bucket
	who  int
	low  int
	mine *api.Task // of an Insert ahead of its Store of the size; of a Take behind it
}

func (m *bucketTeller) lock(s int) int     { return m.b.Base + s*(2+2*m.b.Cap) }
func (m *bucketTeller) place(s, j int) int { return m.lock(s) + 2 + 2*j }
func (m *bucketTeller) size(s int) int {
	return int(min(m.load(m.lock(s)+1), uint64(m.b.Cap)))
}

func (m *bucketTeller) insert(t api.Task) api.Reply {
	m.mine = &t
	defer func() { m.mine = nil }()
	s := int(t.Key / m.b.Width % uint64(m.b.Slots))
	for !m.cas(m.lock(s), 0, uint64(m.who)+1) {
	}
	n := m.size(s)
	if n == m.b.Cap {
		m.store(m.lock(s), 0)
		return said(api.StFull, t)
	}
	m.store(m.place(s, n), t.Key)
	m.store(m.place(s, n)+1, t.Load)
	m.store(m.lock(s)+1, uint64(n)+1)
	m.mine = nil
	m.store(m.lock(s), 0)
	if s < m.low {
		m.low = s
	}
	return said(api.StDone)
}

func (m *bucketTeller) take() api.Reply {
	defer func() { m.mine = nil }()
	low := m.low
	for i := range m.b.Slots {
		s := (low + i) % m.b.Slots
		if m.size(s) == 0 || !m.cas(m.lock(s), 0, uint64(m.who)+1) {
			continue
		}
		n := m.size(s)
		if n == 0 {
			m.store(m.lock(s), 0)
			continue
		}
		key := m.load(m.place(s, n-1))
		t := pair(key, m.load(m.place(s, n-1)+1))
		m.store(m.lock(s)+1, uint64(n)-1)
		m.mine = &t
		m.store(m.lock(s), 0)
		m.low = s
		return said(api.StTask, t)
	}
	m.low = 0
	return said(api.StEmpty)
}

func (m *bucketTeller) held(cells []uint64, all []teller) []api.Task {
	var out []api.Task
	for s := range m.b.Slots {
		for j := range int(min(cells[m.lock(s)+1], uint64(m.b.Cap))) {
			out = append(out, pair(cells[m.place(s, j)], cells[m.place(s, j)+1]))
		}
	}
	for _, x := range all {
		if h := x.(*bucketTeller); h.mine != nil {
			out = append(out, *h.mine)
		}
	}
	return sorted(out)
}

// multiTeller is the flush, the Take and the sweep of chapter 13, and its M5.
type multiTeller struct {
	*line
	m       api.Multi
	who     int
	d       *dice.Dice
	in, out []api.Task
	inLane  int
	inLeft  int
	a, b    int
	outLeft int
	at      int      // the lane of the open operation
	op      *lane.Op // nil: there is none
	push    bool
}

func (m *multiTeller) lanes() int { return m.m.Workers * m.m.Per }

func (m *multiTeller) laneOf(q int) api.Lane {
	return api.Lane{Base: m.m.Base + q*(3+2*m.m.Cap), Cap: m.m.Cap, Arity: m.m.Arity}
}

func (m *multiTeller) top(q int) uint64 { return m.load(m.laneOf(q).Base + 1) }

// use makes the accesses of a lane's operation.
func (m *multiTeller) use(q int, push bool, o *lane.Op) api.Reply {
	m.at, m.op, m.push = q, o, push
	for !o.Over() {
		m.ahead()
		o.Step(m.port)
	}
	m.op = nil
	return o.Reply()
}

func (m *multiTeller) pop(q int) (api.Reply, bool) {
	o, _ := lane.Pop(m.laneOf(q), m.who, m.m.Out)
	r := m.use(q, false, o)
	if r.Status != api.StTask {
		return api.Reply{}, false
	}
	m.out = r.Tasks[1:]
	return said(api.StTask, r.Tasks[0]), true
}

func (m *multiTeller) insert(t api.Task) api.Reply {
	m.in = append(m.in, t)
	if len(m.in) < m.m.In {
		return said(api.StDone)
	}
	return m.flush()
}

func (m *multiTeller) flush() api.Reply {
	for {
		if m.inLeft == 0 {
			m.inLane, m.inLeft = draw(m.d, m.lanes()), m.m.Stick
		}
		o, _ := lane.Push(m.laneOf(m.inLane), m.who, m.in)
		r := m.use(m.inLane, true, o)
		switch r.Status {
		case api.StDone:
			m.inLeft, m.in = m.inLeft-1, nil
			return said(api.StDone)
		case api.StFull:
			m.inLeft, m.in = 0, r.Tasks
			return said(api.StFull, slices.Clone(m.in)...)
		}
		m.inLeft = 0
	}
}

func (m *multiTeller) take() api.Reply {
	if len(m.out) > 0 {
		return m.buffered()
	}
	for fails := 0; fails < m.m.Tries; fails++ {
		if m.outLeft == 0 {
			m.a = draw(m.d, m.lanes())
			m.b = draw(m.d, m.lanes())
			m.outLeft = m.m.Stick
		}
		a := m.top(m.a)
		b := m.top(m.b)
		q := m.a
		if a > b {
			q = m.b
		}
		if a != never || b != never {
			if r, is := m.pop(q); is {
				m.outLeft--
				return r
			}
		}
		m.outLeft = 0
	}
	return m.sweep()
}

func (m *multiTeller) buffered() api.Reply {
	least := 0
	for i, x := range m.in {
		if x.Key < m.in[least].Key {
			least = i
		}
	}
	if len(m.in) > 0 && m.in[least].Key < m.out[0].Key {
		t := m.in[least]
		m.in = append(slices.Clone(m.in[:least]), m.in[least+1:]...)
		return said(api.StTask, t)
	}
	t := m.out[0]
	m.out = m.out[1:]
	return said(api.StTask, t)
}

func (m *multiTeller) sweep() api.Reply {
	if len(m.in) > 0 {
		if r := m.flush(); r.Status == api.StFull {
			return r
		}
	}
	for q := range m.lanes() {
		if m.top(q) == never {
			continue
		}
		if r, is := m.pop(q); is {
			return r
		}
	}
	return said(api.StEmpty)
}

func (m *multiTeller) held(cells []uint64, all []teller) []api.Task {
	var out []api.Task
	for q := range m.lanes() {
		l, _ := lane.Items(m.laneOf(q), cells)
		for _, x := range slices.Backward(all) { // cells that were poked may let two have one lock: the first of them counts
			if h := x.(*multiTeller); h.op != nil && h.at == q && h.op.Locked() {
				l, _ = h.op.Hold(cells)
			}
		}
		out = append(out, l...)
	}
	for _, x := range all {
		h := x.(*multiTeller)
		if h.op == nil || !h.push || !h.op.Locked() {
			out = append(out, h.in...)
		}
		out = append(out, h.out...)
	}
	return sorted(out)
}
