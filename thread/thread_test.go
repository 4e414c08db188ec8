package thread_test

import (
	"math/rand"
	"slices"
	"testing"

	"wayfare/api"
	"wayfare/arena"
	"wayfare/thread"
)

func newThread(t *testing.T, c api.Code) *thread.Thread {
	t.Helper()
	x, e := thread.New(c)
	if x == nil || e != api.OK {
		t.Fatalf("R2: New(%.90v) = %d", c, e)
	}
	return x
}

// table is an arena with a port that is granted ahead of each step.
type table struct {
	t *testing.T
	a *arena.Arena
	p *arena.Port
}

func newTable(t *testing.T, cells ...uint64) table {
	t.Helper()
	a, e := arena.New(len(cells), true)
	if e != api.OK {
		t.Fatalf("New = %d", e)
	}
	for i, v := range cells {
		a.Poke(i, v)
	}
	p, _ := a.Port(0)
	return table{t, a, p}
}

func (b table) step(x *thread.Thread) {
	b.p.Grant()
	x.Step(b.p)
}

func (b table) wantCells(want ...uint64) {
	b.t.Helper()
	if got := b.a.Image(); !slices.Equal(got, want) {
		b.t.Errorf("R3: cells %v, want %v", got, want)
	}
}

// wantRegs looks at registers by their numbers; those that are not named are 0.
func wantRegs(t *testing.T, x *thread.Thread, want map[int]uint64) {
	t.Helper()
	got := x.Regs()
	if len(got) != api.Registers {
		t.Fatalf("R5: %d registers", len(got))
	}
	for i, v := range got {
		if v != want[i] {
			t.Errorf("R5: r%d is %d, want %d: %v", i, v, want[i], got)
		}
	}
}

func wantPlace(t *testing.T, x *thread.Thread, at int, over, spun bool) {
	t.Helper()
	if x.At() != at || x.Over() != over || x.Spun() != spun {
		t.Errorf("R4, R5: At %d, Over %v, Spun %v, want %d, %v, %v", x.At(), x.Over(), x.Spun(), at, over, spun)
	}
}

func TestRegistersAtTheStart(t *testing.T) {
	regs, want := make([]uint64, 15), map[int]uint64{}
	for i := range regs {
		regs[i] = uint64(i) + 70
		want[i+1] = regs[i]
	}
	wantRegs(t, newThread(t, api.Code{Name: "a", Regs: regs}), want)
	wantRegs(t, newThread(t, api.Code{Name: "a", Regs: []uint64{most}}), map[int]uint64{1: most})
	wantRegs(t, newThread(t, api.Code{Name: "a"}), nil)
}

func TestEachLocalInstruction(t *testing.T) {
	for _, c := range []struct {
		x    api.Instr
		b, c uint64
		want uint64
	}{
		{api.Instr{Op: api.OpSet, A: 1, N: most}, 4, 5, most},
		{api.Instr{Op: api.OpSet, A: 1}, 4, 5, 0},
		{api.Instr{Op: api.OpMove, A: 1, B: 2}, most, 5, most},
		{api.Instr{Op: api.OpMove, A: 1}, 4, 5, 0},
		{api.Instr{Op: api.OpPlus, A: 1, B: 2, C: 3}, 4, 5, 9},
		{api.Instr{Op: api.OpPlus, A: 1, B: 2, C: 3}, most, 5, 4},
		{api.Instr{Op: api.OpMinus, A: 1, B: 2, C: 3}, 9, 5, 4},
		{api.Instr{Op: api.OpMinus, A: 1, B: 2, C: 3}, 4, 5, most},
		{api.Instr{Op: api.OpTimes, A: 1, B: 2, C: 3}, 4, 5, 20},
		{api.Instr{Op: api.OpTimes, A: 1, B: 2, C: 3}, 1 << 63, 3, 1 << 63},
		{api.Instr{Op: api.OpAnd, A: 1, B: 2, C: 3}, 12, 10, 8},
		{api.Instr{Op: api.OpLess, A: 1, B: 2, C: 3}, 4, 5, 1},
		{api.Instr{Op: api.OpLess, A: 1, B: 2, C: 3}, 5, 5, 0},
		{api.Instr{Op: api.OpLess, A: 1, B: 2, C: 3}, most, 5, 0},
		{api.Instr{Op: api.OpLess, A: 1, B: 2, C: 3}, 5, most, 1},
		{api.Instr{Op: api.OpSame, A: 1, B: 2, C: 3}, 5, 5, 1},
		{api.Instr{Op: api.OpSame, A: 1, B: 2, C: 3}, 4, 5, 0},
	} {
		x := newThread(t, api.Code{Name: "a", Code: []api.Instr{c.x}, Regs: []uint64{77, c.b, c.c}})
		wantRegs(t, x, map[int]uint64{1: c.want, 2: c.b, 3: c.c})
		wantPlace(t, x, 1, true, false)
		c.x.A = 0
		x = newThread(t, api.Code{Name: "a", Code: []api.Instr{c.x}, Regs: []uint64{77, c.b, c.c}})
		wantRegs(t, x, map[int]uint64{1: 77, 2: c.b, 3: c.c}) // what is put into r0 is lost
	}
	// a result may go into a register that it is made of
	x := newThread(t, api.Code{Name: "a", Code: []api.Instr{{Op: api.OpPlus, A: 1, B: 1, C: 1}, {Op: api.OpMinus, A: 2, B: 1, C: 2}}, Regs: []uint64{6, 5}})
	wantRegs(t, x, map[int]uint64{1: 12, 2: 7})
}

func TestJumps(t *testing.T) {
	halt := api.Instr{Op: api.OpHalt}
	for _, c := range []struct {
		x    api.Instr
		r1   uint64
		goes bool
	}{
		{api.Instr{Op: api.OpGo}, 5, true},
		{api.Instr{Op: api.OpGo}, 0, true},
		{api.Instr{Op: api.OpZero, A: 1}, 0, true},
		{api.Instr{Op: api.OpZero, A: 1}, 1, false},
		{api.Instr{Op: api.OpZero, A: 1}, most, false},
		{api.Instr{Op: api.OpZero}, 9, true},
		{api.Instr{Op: api.OpMore, A: 1}, 0, false},
		{api.Instr{Op: api.OpMore, A: 1}, 1, true},
		{api.Instr{Op: api.OpMore, A: 1}, 1 << 63, true},
		{api.Instr{Op: api.OpMore}, 9, false},
	} {
		for place := range uint64(6) { // each place of the code, and the one behind the last
			if place == 2 {
				continue
			}
			c.x.N = place
			x := newThread(t, api.Code{Name: "a", Code: []api.Instr{{Op: api.OpGo, N: 2}, halt, c.x, halt, halt}, Regs: []uint64{c.r1}})
			want := 3
			if c.goes {
				want = int(place)
			}
			if c.goes && place == 0 {
				wantPlace(t, x, 0, true, true) // two that go to one another; the 1001st is the first of them
				continue
			}
			wantPlace(t, x, want, true, false)
		}
	}
}

func TestEachAccess(t *testing.T) {
	for _, c := range []struct {
		x     api.Instr
		cell  uint64
		regs  map[int]uint64
		left  uint64
		ok    bool
		kind  int
		asked [2]uint64
	}{
		{api.Instr{Op: api.OpLoad, A: 1, N: 1}, 9, map[int]uint64{1: 9, 2: 1, 3: 20}, 9, true, api.AccLoad, [2]uint64{}},
		{api.Instr{Op: api.OpStore, A: 1, N: 1}, 9, map[int]uint64{1: 5, 2: 1, 3: 20}, 5, true, api.AccStore, [2]uint64{0, 5}},
		{api.Instr{Op: api.OpCas, A: 1, C: 3, N: 1}, 5, map[int]uint64{1: 1, 2: 1, 3: 20}, 20, true, api.AccCas, [2]uint64{5, 20}},
		{api.Instr{Op: api.OpCas, A: 1, C: 3, N: 1}, 6, map[int]uint64{1: 0, 2: 1, 3: 20}, 6, false, api.AccCas, [2]uint64{5, 20}},
		{api.Instr{Op: api.OpCas, A: 1, C: 1, N: 1}, 5, map[int]uint64{1: 1, 2: 1, 3: 20}, 5, true, api.AccCas, [2]uint64{5, 5}},
		{api.Instr{Op: api.OpAdd, A: 1, N: 1}, 9, map[int]uint64{1: 14, 2: 1, 3: 20}, 14, true, api.AccAdd, [2]uint64{0, 5}},
		{api.Instr{Op: api.OpAdd, A: 1, N: 1}, most, map[int]uint64{1: 4, 2: 1, 3: 20}, 4, true, api.AccAdd, [2]uint64{0, 5}},
		{api.Instr{Op: api.OpSwap, A: 1, N: 1}, 9, map[int]uint64{1: 9, 2: 1, 3: 20}, 5, true, api.AccSwap, [2]uint64{0, 5}},
	} {
		for _, reg := range []int{0, 2} { // the cell 1 as [1] and as [r2]
			b := newTable(t, 0, c.cell)
			if c.x.B = reg; reg == 2 {
				c.x.N = 0
			}
			x := newThread(t, api.Code{Name: "a", Code: []api.Instr{c.x}, Regs: []uint64{5, 1, 20}})
			wantPlace(t, x, 0, false, false)
			wantRegs(t, x, map[int]uint64{1: 5, 2: 1, 3: 20})
			b.step(x)
			wantPlace(t, x, 1, true, false)
			wantRegs(t, x, c.regs)
			b.wantCells(0, c.left)
			want := api.Access{Kind: c.kind, Cell: 1, Want: c.asked[0], Put: c.asked[1], Seen: c.cell, Left: c.left, Ok: c.ok}
			if l := b.a.Log(); len(l) != 1 || l[0] != want {
				t.Errorf("R3: %v makes %v, want %v", c.x, l, want)
			}
		}
	}
}

// TestAccessesOfRegister0: it puts 0, wants 0, adds 0, and keeps nothing.
func TestAccessesOfRegister0(t *testing.T) {
	b := newTable(t, 7)
	x := newThread(t, api.Code{Name: "a", Code: []api.Instr{{Op: api.OpLoad}, {Op: api.OpAdd}, {Op: api.OpSwap}, {Op: api.OpCas, C: 1}, {Op: api.OpStore}}, Regs: []uint64{8}})
	for i, left := range []uint64{7, 7, 0, 8, 0} {
		wantPlace(t, x, i, false, false)
		b.step(x)
		b.wantCells(left)
		wantRegs(t, x, map[int]uint64{1: 8})
	}
	wantPlace(t, x, 5, true, false)
}

func TestCells(t *testing.T) {
	for _, c := range []struct {
		r, n uint64
		want int
	}{
		{0, 2, 2}, {2, 0, 2}, {1, 1, 2}, {most, 3, 2}, {3, most, 2}, {1 << 63, 1<<63 + 1, 1}, {0, 3, 3}, {0, api.MaxCells - 1, api.MaxCells - 1},
		{0, api.MaxCells, api.MaxCells}, {0, api.MaxCells + 1, api.MaxCells}, {1, api.MaxCells, api.MaxCells}, {0, most, api.MaxCells}, {most, most, api.MaxCells}, {0, 1 << 63, api.MaxCells}, {1 << 32, 0, api.MaxCells},
	} {
		b := newTable(t, 0, 0, 0)
		x := newThread(t, api.Code{Name: "a", Code: []api.Instr{{Op: api.OpStore, A: 1, B: 2, N: c.n}}, Regs: []uint64{6, c.r}})
		b.step(x)
		f, stopped := b.a.Fault()
		if v, _ := b.a.Peek(c.want); c.want < 3 && (v != 6 || stopped) {
			t.Errorf("[%d+%d] is not the cell %d", c.r, c.n, c.want)
		}
		if c.want >= 3 && (!stopped || f != (api.Fault{Kind: api.FaultCell, Cell: c.want})) {
			t.Errorf("[%d+%d]: Fault %v, %v, want the cell %d", c.r, c.n, f, stopped, c.want)
		}
		wantPlace(t, x, 1, true, false)
	}
}

// TestAStoppedArena: what it answers is taken as any other answer.
func TestAStoppedArena(t *testing.T) {
	b := newTable(t, 9)
	b.a.Stop(api.Fault{})
	x := newThread(t, api.Code{Name: "a", Code: []api.Instr{{Op: api.OpLoad, A: 1}, {Op: api.OpAdd, A: 2}, {Op: api.OpSwap, A: 3}, {Op: api.OpCas, A: 4}, {Op: api.OpStore, A: 5}}, Regs: []uint64{1, 2, 3, 0, 5}})
	for range 5 {
		b.step(x)
	}
	wantRegs(t, x, map[int]uint64{2: 2, 5: 5})
	wantPlace(t, x, 5, true, false)
	b.wantCells(9)
	if b.a.Count() != 0 {
		t.Error("R3: an access of a stopped arena")
	}
	x = newThread(t, code(api.Instr{Op: api.OpLoad, A: 1}))
	x.Step(nil)
	wantPlace(t, x, 1, true, false)
}

// TestStepsOfOneThatIsOver: they do nothing.
func TestStepsOfOneThatIsOver(t *testing.T) {
	b := newTable(t, 9)
	for _, c := range []api.Code{{Name: "a"}, code(api.Instr{Op: api.OpHalt}, api.Instr{Op: api.OpLoad, A: 1}), code(api.Instr{Op: api.OpGo})} {
		x := newThread(t, c)
		at, spun := x.At(), x.Spun()
		b.step(x)
		b.step(x)
		wantPlace(t, x, at, true, spun)
		wantRegs(t, x, nil)
	}
	if b.a.Count() != 0 || !b.p.Granted() {
		t.Error("R3: one that is over makes an access")
	}
}

// sets are so many local instructions, which count up in r1 (r2 is 1).
func sets(n int) []api.Instr {
	return slices.Repeat([]api.Instr{{Op: api.OpPlus, A: 1, B: 1, C: 2}}, n)
}

func TestSpun(t *testing.T) {
	halt, load := api.Instr{Op: api.OpHalt}, api.Instr{Op: api.OpLoad, A: 3}
	for _, c := range []struct {
		name       string
		code       []api.Instr
		at         int
		r1         uint64
		over, spun bool
	}{
		{"999, then the end", sets(999), 999, 999, true, false},
		{"1000, then the end", sets(1000), 1000, 1000, true, false},
		{"1001", sets(1001), 1000, 1000, true, true},
		{"1000, then halt", append(sets(1000), halt), 1000, 1000, true, false},
		{"1001, then halt", append(sets(1001), halt), 1000, 1000, true, true},
		{"1000, then an access", append(sets(1000), load), 1000, 1000, false, false},
		{"1001, then an access", append(sets(1001), load), 1000, 1000, true, true},
		{"a jump to the end as the 1000th", append(sets(999), api.Instr{Op: api.OpGo, N: 1000}), 1000, 999, true, false},
		{"a jump to the end as the 1001st", append(sets(1000), api.Instr{Op: api.OpGo, N: 1001}), 1000, 1000, true, true},
		{"a loop of two", []api.Instr{{Op: api.OpPlus, A: 1, B: 1, C: 2}, {Op: api.OpGo}}, 0, 500, true, true},
		{"a loop of three", []api.Instr{{Op: api.OpPlus, A: 1, B: 1, C: 2}, {Op: api.OpMove}, {Op: api.OpGo}}, 1, 334, true, true},
		{"a loop of one", []api.Instr{{Op: api.OpGo}}, 0, 0, true, true},
	} {
		x := newThread(t, api.Code{Name: "a", Code: c.code, Regs: []uint64{0, 1}})
		if t.Log(c.name); x.Regs()[1] != c.r1 {
			t.Errorf("R4: %s: r1 is %d, want %d", c.name, x.Regs()[1], c.r1)
		}
		wantPlace(t, x, c.at, c.over, c.spun)

		// and the same since an access
		b := newTable(t, 0)
		behind := append([]api.Instr{load}, c.code...)
		for i := range behind {
			if isJump(behind[i].Op) {
				behind[i].N++
			}
		}
		x = newThread(t, api.Code{Name: "a", Code: behind, Regs: []uint64{0, 1}})
		wantPlace(t, x, 0, false, false)
		b.step(x)
		wantPlace(t, x, c.at+1, c.over, c.spun)
	}
}

func TestThreadExamples(t *testing.T) {
	wantPlace(t, newThread(t, code(api.Instr{Op: api.OpGo, N: 0})), 0, true, true)
	wantPlace(t, newThread(t, code()), 0, true, false)
	wantPlace(t, newThread(t, code(api.Instr{Op: api.OpGo, N: 1})), 1, true, false)
	b := newTable(t, 7)
	x := newThread(t, api.Code{Name: "a", Code: []api.Instr{{Op: api.OpAdd, A: 1}}, Regs: []uint64{5}})
	b.step(x)
	wantRegs(t, x, map[int]uint64{1: 12})
	wantPlace(t, x, 1, true, false)
	wantCheck(t, code(api.Instr{Op: api.OpGo, N: 2}), api.ErrPlace, 0)
	wantCheck(t, code(api.Instr{Op: api.OpGo, N: 1}), api.OK, 0)

	b = newTable(t, 0, 0)
	x = newThread(t, wantRead(t, lockText)[0])
	steps := 0
	for ; !x.Over() && steps < 100; steps++ {
		b.step(x)
	}
	if steps != 12 {
		t.Errorf("the lock is over behind %d steps", steps)
	}
	b.wantCells(0, 3)
}

// TestThreadKeepsNothing: what it was handed is the caller's, and what it tells is new.
func TestThreadKeepsNothing(t *testing.T) {
	c := api.Code{Name: "a", Code: []api.Instr{{Op: api.OpStore, A: 1}, {Op: api.OpStore, A: 2}}, Regs: []uint64{5, 6}}
	x := newThread(t, c)
	c.Code[0], c.Code[1], c.Regs[0], c.Regs[1] = api.Instr{Op: 99}, api.Instr{Op: 99, A: 77}, 8, 8
	clear(x.Regs())
	b := newTable(t, 0)
	b.step(x)
	b.wantCells(5)
	b.step(x)
	b.wantCells(6)
	regs := x.Regs()
	y := newThread(t, code(api.Instr{Op: api.OpLoad, A: 1}))
	b.step(y)
	if regs[1] != 5 || x.Regs()[1] != 5 {
		t.Error("P0.5: two threads share registers")
	}
}

// model plays a code by the table of the chapter, one instruction after the other, over cells of its own.
type model struct {
	c          api.Code
	r          [16]uint64
	at, local  int
	over, spun bool
	cells      []uint64
}

// one carries out the instruction at hand; it tells false where an access is to be made and access is false.
func (m *model) one(access bool) bool {
	if m.at >= len(m.c.Code) || m.c.Code[m.at].Op == 1 {
		m.over = true
		return false
	}
	x := m.c.Code[m.at]
	if x.Op <= 6 && !access {
		return false
	}
	if x.Op > 6 && m.local >= 1000 {
		m.over, m.spun = true, true
		return false
	}
	m.local++
	m.at++
	cell := (m.r[x.B] + x.N) % uint64(len(m.cells)) // the codes keep to the cells that there are
	a, b, c := m.r[x.A], m.r[x.B], m.r[x.C]
	to := map[bool]uint64{true: 1}
	switch x.Op {
	case 2:
		a, m.local = m.cells[cell], 0
	case 3:
		m.cells[cell], m.local = a, 0
	case 4:
		same := m.cells[cell] == a
		if same {
			m.cells[cell] = c
		}
		a, m.local = to[same], 0
	case 5:
		m.cells[cell] += a
		a, m.local = m.cells[cell], 0
	case 6:
		a, m.cells[cell], m.local = m.cells[cell], a, 0
	case 7:
		a = x.N
	case 8:
		a = b
	case 9:
		a = b + c
	case 10:
		a = b - c
	case 11:
		a = b * c
	case 12:
		a = b & c
	case 13:
		a = to[b < c]
	case 14:
		a = to[b == c]
	}
	if x.Op == 15 || x.Op == 16 && a == 0 || x.Op == 17 && a != 0 {
		m.at = int(x.N)
	}
	m.r[x.A] = a
	m.r[0] = 0
	return true
}

func (m *model) rest() {
	for m.one(false) {
	}
}

// chance is a code by chance, whose accesses keep to three cells.
func chance(r *rand.Rand) api.Code {
	c := api.Code{Name: "x"}
	for range r.Intn(4) {
		c.Regs = append(c.Regs, uint64(r.Intn(3)))
	}
	long := r.Intn(12)
	for range long {
		x := api.Instr{Op: 1 + r.Intn(17)}
		used := uses[x.Op]
		for i, f := range []*int{&x.A, &x.B, &x.C} {
			if len(used) > 0 && slices.Contains([]byte(used), "ABC"[i]) {
				*f = r.Intn(5)
			}
		}
		switch {
		case isJump(x.Op):
			x.N = uint64(r.Intn(long + 1))
		case x.Op >= 2 && x.Op <= 6:
			x.B, x.N = 0, uint64(r.Intn(3))
		case x.Op == 7:
			x.N = uint64(r.Intn(3)) - 1
		}
		c.Code = append(c.Code, x)
	}
	return c
}

// TestAgainstTheTable: codes by chance do what the chapter's table says, step by step.
func TestAgainstTheTable(t *testing.T) {
	r := rand.New(rand.NewSource(11))
	spun, steps := 0, 0
	for range 3000 {
		c := chance(r)
		m := &model{c: c, cells: make([]uint64, 3)}
		copy(m.r[1:], c.Regs)
		x, b := newThread(t, c), newTable(t, 0, 0, 0)
		m.rest()
		for range 30 {
			if x.At() != m.at || x.Over() != m.over || x.Spun() != m.spun || !slices.Equal(x.Regs(), m.r[:]) || !slices.Equal(b.a.Image(), m.cells) {
				t.Fatalf("R3, R4: %v: At %d, Over %v, Spun %v, %v, %v, want %d, %v, %v, %v, %v", c, x.At(), x.Over(), x.Spun(), x.Regs(), b.a.Image(), m.at, m.over, m.spun, m.r, m.cells)
			}
			if m.over {
				break
			}
			b.step(x)
			m.one(true)
			m.rest()
			steps++
			if b.a.Count() == 0 || b.p.Granted() {
				t.Fatalf("R3: a step without an access: %v", c)
			}
		}
		if m.spun {
			spun++
		}
	}
	if spun < 50 || steps < 3000 {
		t.Errorf("%d threads spun, %d steps: the test looks at too little", spun, steps)
	}
}
