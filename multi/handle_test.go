package multi_test

import (
	"fmt"
	"slices"
	"strings"
	"testing"

	"wayfare/api"
	"wayfare/arena"
	"wayfare/dice"
	"wayfare/multi"
)

func open(t *testing.T, m api.Multi, who int, d *dice.Dice) *multi.Handle {
	t.Helper()
	h, e := multi.Open(m, who, d)
	if h == nil || e != api.OK {
		t.Fatalf("M2: Open(%v, %d) = %d", m, who, e)
	}
	return h
}

// table is the workers of one pool.
type table struct {
	m     api.Multi
	a     *arena.Arena
	hs    []*multi.Handle
	ports []*arena.Port
	dice  []*dice.Dice
}

// newTable is a filled pool; each worker draws the given words first.
func newTable(t *testing.T, m api.Multi, words []uint64, tasks ...api.Task) *table {
	t.Helper()
	cells, e := multi.Fill(m, tasks)
	if e != api.OK {
		t.Fatalf("M1: Fill = %d", e)
	}
	x := &table{m: m}
	x.a, _ = arena.New(m.Base+len(cells), true)
	for i, v := range cells {
		x.a.Poke(m.Base+i, v)
	}
	for who := range m.Workers {
		p, _ := x.a.Port(who)
		d := dice.New(uint64(who), words)
		x.hs, x.ports, x.dice = append(x.hs, open(t, m, who, d)), append(x.ports, p), append(x.dice, d)
	}
	return x
}

func (x *table) steps(who, n int) {
	for range n {
		x.ports[who].Grant()
		x.hs[who].Step(x.ports[who])
	}
}

func word(v uint64) string {
	if v == never {
		return "Never"
	}
	return fmt.Sprint(v)
}

// text is an access as the chapter's examples write it.
func text(x api.Access) string {
	switch {
	case x.Kind == api.AccLoad:
		return fmt.Sprintf("Load %d: %s", x.Cell, word(x.Seen))
	case x.Kind == api.AccStore:
		return fmt.Sprintf("Store %d %s", x.Cell, word(x.Put))
	case x.Kind == api.AccCas && x.Ok:
		return fmt.Sprintf("Cas %d: %d to %d", x.Cell, x.Want, x.Put)
	}
	return fmt.Sprintf("no Cas %d", x.Cell)
}

// play plays the open operation to its end, and tells its accesses.
func (x *table) play(who int) string {
	from := x.a.Count()
	for i := 0; !x.hs[who].Over() && i < 100000; i++ {
		x.steps(who, 1)
	}
	var out []string
	for _, y := range x.a.Log()[from:] {
		out = append(out, text(y))
	}
	return strings.Join(out, "; ")
}

func (x *table) wantReply(t *testing.T, who, status int, tasks ...api.Task) {
	t.Helper()
	if r := x.hs[who].Reply(); !x.hs[who].Over() || r.Status != status || !slices.Equal(r.Tasks, tasks) {
		t.Errorf("M4: Over %v, Reply = %v, want %d %v", x.hs[who].Over(), r, status, tasks)
	}
}

func (x *table) wantHeld(t *testing.T, want ...api.Task) {
	t.Helper()
	if l, e := multi.Held(x.m, x.a.Image(), x.hs); e != api.OK || !slices.Equal(l, want) {
		t.Errorf("M5: Held = %v, %d, want %v", l, e, want)
	}
}

func (x *table) wantUsed(t *testing.T, who, want int) {
	t.Helper()
	if n := x.dice[who].Used(); n != want {
		t.Errorf("M3: %d draws, want %d", n, want)
	}
}

// insert and take make a whole operation.
func (x *table) insert(t *testing.T, who int, c api.Task) string {
	t.Helper()
	if e := x.hs[who].Insert(c); e != api.OK {
		t.Fatalf("M3: Insert(%v) = %d", c, e)
	}
	return x.play(who)
}

func (x *table) take(t *testing.T, who int) string {
	t.Helper()
	if e := x.hs[who].Take(); e != api.OK {
		t.Fatalf("M3: Take = %d", e)
	}
	return x.play(who)
}

func wantText(t *testing.T, got, want string) {
	t.Helper()
	if got != want {
		t.Errorf("accesses\n%s, want\n%s", got, want)
	}
}

// TestExamples: row by row.
func TestExamples(t *testing.T) {
	m := api.Multi{Workers: 1, Per: 2, Cap: 2, Arity: 2, In: 2, Out: 2, Stick: 1, Tries: 1}
	x := newTable(t, m, []uint64{0, 0, 1 << 63, 0, 0})
	h := x.hs[0]
	if e := h.Insert(pair(5, 1)); e != api.OK {
		t.Errorf("M3: Insert = %d", e)
	}
	x.wantReply(t, 0, api.StDone) // over as soon as it is begun
	x.wantHeld(t, pair(5, 1))
	x.wantUsed(t, 0, 0)
	h.Insert(pair(3, 2))
	x.wantUsed(t, 0, 1)
	if h.Over() || h.Reply().Status != api.StOpen {
		t.Error("M4: a flush is over ahead of its first access")
	}
	for range 17 {
		x.wantHeld(t, pair(3, 2), pair(5, 1))
		x.steps(0, 1)
	}
	x.wantReply(t, 0, api.StDone)
	var got []string
	for _, y := range x.a.Log() {
		got = append(got, text(y))
	}
	wantText(t, strings.Join(got, "; "), "Cas 0: 0 to 1; Load 2: 0; Store 3 5; Store 4 1; Store 2 1; Load 2: 1; Load 3: 5; Load 4: 1; Store 5 5; Store 6 1; Store 3 3; Store 4 2; Store 2 2; Load 2: 2; Load 3: 3; Store 1 3; Store 0 0")
	h.Take()
	x.wantUsed(t, 0, 3)
	wantText(t, x.play(0), "Load 1: 3; Load 8: Never; Cas 0: 0 to 1; Load 2: 2; Load 3: 3; Load 4: 2; Store 2 1; Load 5: 5; Load 6: 1; Store 3 5; Store 4 1; Load 2: 1; Load 3: 5; Load 4: 1; Store 2 0; Load 2: 0; Store 1 Never; Store 0 0")
	x.wantReply(t, 0, api.StTask, pair(3, 2))
	x.wantHeld(t, pair(5, 1))
	wantText(t, x.take(t, 0), "")
	x.wantReply(t, 0, api.StTask, pair(5, 1))
	x.wantHeld(t)
	wantText(t, x.take(t, 0), "Load 1: Never; Load 1: Never; Load 1: Never; Load 8: Never")
	x.wantReply(t, 0, api.StEmpty)
	x.wantUsed(t, 0, 5)
}

// TestHeldBack: up to In tasks are, the last of them goes in with all others; In 0 and 1 hold none back.
func TestHeldBack(t *testing.T) {
	for _, in := range []int{0, 1, 2, 5, api.MaxBuffer} {
		x := newTable(t, api.Multi{Workers: 1, Per: 1, Cap: 200, Arity: 2, In: in, Out: 1, Stick: 3, Tries: 1}, nil)
		for i := 1; i <= 2*max(in, 1); i++ {
			x.hs[0].Insert(pair(uint64(i), 0))
			if over := i%max(in, 1) != 0; x.hs[0].Over() != over {
				t.Fatalf("In %d: the Insert %d: Over %v", in, i, !over)
			}
			x.play(0)
			x.wantReply(t, 0, api.StDone)
		}
		if v, _ := x.a.Peek(2); int(v) != 2*max(in, 1) {
			t.Errorf("In %d: %d tasks are in the lane", in, v)
		}
	}
}

// TestOrderInTheLane: what was held back is pushed in the order in which it came.
func TestOrderInTheLane(t *testing.T) {
	x := newTable(t, api.Multi{Workers: 1, Per: 1, Cap: 3, Arity: 2, In: 3, Out: 3, Stick: 1, Tries: 1}, nil)
	x.insert(t, 0, pair(7, 1))
	x.insert(t, 0, pair(7, 2))
	x.insert(t, 0, pair(7, 3))
	if got := x.a.Image(); !slices.Equal(got, []uint64{0, 7, 3, 7, 1, 7, 2, 7, 3}) {
		t.Errorf("flush: %v", got)
	}
	for _, want := range []uint64{1, 3, 2} { // as the heap pops them
		x.take(t, 0)
		x.wantReply(t, 0, api.StTask, pair(7, want))
	}
}

// TestStickIn: a lane is drawn once for Stick flushes, and again behind one that found no room or a lock.
func TestStickIn(t *testing.T) {
	m := api.Multi{Workers: 2, Per: 1, Cap: 3, Arity: 2, In: 0, Out: 1, Stick: 2, Tries: 1}
	x := newTable(t, m, []uint64{1 << 63, 0, 0, 1 << 63, 1 << 63})
	for i, used := range []int{1, 1, 2, 2} {
		x.hs[0].Insert(pair(uint64(i), 0))
		x.wantUsed(t, 0, used) // as soon as it is begun
		x.play(0)
		x.wantUsed(t, 0, used)
		x.wantReply(t, 0, api.StDone)
	}
	x.a.Poke(0, 9) // somebody has the lock of the lane 0
	x.hs[0].Insert(pair(9, 9))
	x.wantUsed(t, 0, 3)
	x.steps(0, 1)
	x.wantUsed(t, 0, 4) // the lane 1, for two
	if got := x.play(0); !strings.HasPrefix(got, "Cas 9: 0 to 1; ") {
		t.Errorf("flush: behind a lock: %s", got)
	}
	x.hs[0].Insert(pair(8, 8))
	x.wantUsed(t, 0, 4)
	x.play(0)
	x.wantReply(t, 0, api.StFull, pair(8, 8))
	x.hs[0].Insert(pair(7, 7))
	x.wantUsed(t, 0, 5)
	x.play(0)
	x.wantReply(t, 0, api.StFull, pair(8, 8), pair(7, 7))
}

// TestWaitingForALane: flush draws on and on, one Cas a draw, as long as it finds locks.
func TestWaitingForALane(t *testing.T) {
	x := newTable(t, api.Multi{Workers: 1, Per: 1, Cap: 3, Arity: 2, In: 0, Out: 1, Stick: 64, Tries: 64}, nil)
	x.a.Poke(0, 5)
	x.hs[0].Insert(pair(1, 1))
	for i := range 200 {
		x.wantUsed(t, 0, i+1)
		x.steps(0, 1)
	}
	x.wantHeld(t, pair(1, 1))
	if x.hs[0].Over() || x.a.Count() != 200 {
		t.Errorf("flush: Over %v behind %d accesses", x.hs[0].Over(), x.a.Count())
	}
	x.a.Poke(0, 0)
	x.play(0)
	x.wantReply(t, 0, api.StDone)
}

// TestFull: what found no room stays in the handle, is told, and goes first when there is room.
func TestFull(t *testing.T) {
	x := newTable(t, api.Multi{Workers: 1, Per: 1, Cap: 2, Arity: 2, In: 3, Out: 1, Stick: 5, Tries: 1}, nil)
	x.insert(t, 0, pair(3, 1))
	x.insert(t, 0, pair(2, 2))
	x.insert(t, 0, pair(1, 3))
	x.wantReply(t, 0, api.StFull, pair(1, 3))
	x.wantHeld(t, pair(1, 3), pair(2, 2), pair(3, 1))
	wantText(t, x.insert(t, 0, pair(9, 9)), "") // two are fewer than three
	x.wantReply(t, 0, api.StDone)
	x.insert(t, 0, pair(8, 8))
	x.wantReply(t, 0, api.StFull, pair(1, 3), pair(9, 9), pair(8, 8))
	x.insert(t, 0, pair(7, 7)) // more than In: flushed again
	x.wantReply(t, 0, api.StFull, pair(1, 3), pair(9, 9), pair(8, 8), pair(7, 7))
	x.take(t, 0)
	x.wantReply(t, 0, api.StTask, pair(2, 2))
	x.insert(t, 0, pair(6, 6))
	x.wantReply(t, 0, api.StFull, pair(9, 9), pair(8, 8), pair(7, 7), pair(6, 6))
	x.wantHeld(t, pair(1, 3), pair(3, 1), pair(6, 6), pair(7, 7), pair(8, 8), pair(9, 9))
}

// TestMoreThanABuffer: behind StFull a handle may hold more than api.MaxBuffer tasks, and loses none.
func TestMoreThanABuffer(t *testing.T) {
	x := newTable(t, api.Multi{Workers: 1, Per: 1, Cap: 1, Arity: 2, In: 64, Out: 1, Stick: 1, Tries: 1}, nil, pair(500, 0))
	for i := range 150 {
		x.insert(t, 0, pair(uint64(i), 0))
	}
	if r := x.hs[0].Reply(); r.Status != api.StFull || len(r.Tasks) != 150 {
		t.Fatalf("M3: %d, %d tasks", r.Status, len(r.Tasks))
	}
	x.take(t, 0)
	x.wantReply(t, 0, api.StTask, pair(500, 0))
	for i := range 150 {
		if x.take(t, 0); x.hs[0].Reply().Status == api.StFull {
			x.take(t, 0) // what the sweep pushed is in the lane now
		}
		x.wantReply(t, 0, api.StTask, pair(uint64(i), 0))
	}
	x.wantHeld(t)
}

// TestOutOfTheBuffers: out's first one, or the first of in with the least key, if that is below it.
func TestOutOfTheBuffers(t *testing.T) {
	x := newTable(t, api.Multi{Workers: 1, Per: 1, Cap: 4, Arity: 2, In: 9, Out: 4, Stick: 1, Tries: 1}, nil, pair(4, 0), pair(5, 0), pair(6, 0), pair(9, 0))
	x.take(t, 0)
	x.wantReply(t, 0, api.StTask, pair(4, 0))
	for _, c := range []api.Task{pair(8, 1), pair(5, 2), pair(3, 3), pair(3, 1), pair(7, 4)} {
		x.insert(t, 0, c)
	}
	from := x.a.Count()
	for _, want := range []api.Task{pair(3, 3), pair(3, 1), pair(5, 0), pair(5, 2), pair(6, 0), pair(7, 4), pair(8, 1), pair(9, 0)} {
		x.take(t, 0)
		x.wantReply(t, 0, api.StTask, want)
	}
	if x.a.Count() != from {
		t.Errorf("M3: %d accesses out of the buffers", x.a.Count()-from)
	}
	x.wantHeld(t)
}

// TestInWaitsForTheSweep: with nothing taken ahead, a Take looks at the lanes first; what is held back goes in ahead of the sweep.
func TestInWaitsForTheSweep(t *testing.T) {
	x := newTable(t, api.Multi{Workers: 1, Per: 2, Cap: 2, Arity: 2, In: 3, Out: 1, Stick: 4, Tries: 2}, []uint64{0, 0, 0, 0, 1 << 63})
	x.insert(t, 0, pair(4, 4))
	x.hs[0].Take()
	x.wantUsed(t, 0, 2)
	x.steps(0, 2)
	x.wantUsed(t, 0, 4)
	x.steps(0, 2)
	x.wantUsed(t, 0, 5) // a lane for the flush, and it is the lane 1
	x.wantHeld(t, pair(4, 4))
	wantText(t, x.play(0), "Cas 7: 0 to 1; Load 9: 0; Store 10 4; Store 11 4; Store 9 1; Load 9: 1; Load 10: 4; Store 8 4; Store 7 0; Load 1: Never; Load 8: 4; Cas 7: 0 to 1; Load 9: 1; Load 10: 4; Load 11: 4; Store 9 0; Load 9: 0; Store 8 Never; Store 7 0")
	x.wantReply(t, 0, api.StTask, pair(4, 4))
}

// TestSweepWithoutRoom: a Take ends with StFull where its sweep finds no room for what is held back.
func TestSweepWithoutRoom(t *testing.T) {
	x := newTable(t, api.Multi{Workers: 1, Per: 2, Cap: 1, Arity: 2, In: 4, Out: 1, Stick: 1, Tries: 1}, []uint64{1 << 63, 1 << 63, 0}, pair(5, 5))
	x.insert(t, 0, pair(7, 7))
	x.insert(t, 0, pair(6, 6))
	wantText(t, x.take(t, 0), "Load 6: Never; Load 6: Never; Cas 0: 0 to 1; Load 2: 1; Load 2: 1; Load 3: 5; Store 1 5; Store 0 0")
	x.wantReply(t, 0, api.StFull, pair(7, 7), pair(6, 6))
	x.wantHeld(t, pair(5, 5), pair(6, 6), pair(7, 7))
}

// TestTheBetterOfTwo: a's, if its top is not above b's; the two stay for Stick pops.
func TestTheBetterOfTwo(t *testing.T) {
	m := api.Multi{Workers: 1, Per: 3, Cap: 3, Arity: 2, In: 0, Out: 1, Stick: 2, Tries: 1}
	words := []uint64{0, 1 << 63, 3 << 62, 1 << 63} // 0 and 1, then 2 and 1
	x := newTable(t, m, words, pair(5, 0), pair(5, 1), pair(4, 2), pair(8, 0), pair(6, 1), pair(9, 2))
	for _, c := range []struct {
		first string
		want  api.Task
		used  int
	}{
		{"Load 1: 5; Load 10: 5; Cas 0: 0 to 1; ", pair(5, 0), 2},
		{"Load 1: 8; Load 10: 5; Cas 9: 0 to 1; ", pair(5, 1), 2},
		{"Load 19: 4; Load 10: 6; Cas 18: 0 to 1; ", pair(4, 2), 4},
		{"Load 19: 9; Load 10: 6; Cas 9: 0 to 1; ", pair(6, 1), 4},
	} {
		if got := x.take(t, 0); !strings.HasPrefix(got, c.first) {
			t.Errorf("Take: %s, want %s..", got, c.first)
		}
		x.wantReply(t, 0, api.StTask, c.want)
		x.wantUsed(t, 0, c.used)
	}
}

// TestFailures: a lock, a lane that was emptied since its top was published, and two that are empty: each is a failure, and Tries of them lead to the sweep.
func TestFailures(t *testing.T) {
	m := api.Multi{Workers: 1, Per: 2, Cap: 1, Arity: 2, In: 0, Out: 1, Stick: 9, Tries: 3}
	x := newTable(t, m, []uint64{0, 0, 1 << 63, 1 << 63, 0, 1 << 63})
	x.a.Poke(0, 4) // the lane 0: locked, with a top
	x.a.Poke(1, 7)
	x.a.Poke(6, 3) // the lane 1: a top, and nothing in it
	x.hs[0].Take()
	for _, c := range []struct {
		steps, used int
	}{{2, 2}, {1, 4}, {2, 4}, {5, 6}, {4, 6}} {
		x.steps(0, c.steps)
		x.wantUsed(t, 0, c.used)
	}
	x.play(0)
	var got []string
	for _, y := range x.a.Log() {
		got = append(got, text(y))
	}
	wantText(t, strings.Join(got, "; "), "Load 1: 7; Load 1: 7; no Cas 0; "+
		"Load 6: 3; Load 6: 3; Cas 5: 0 to 1; Load 7: 0; Load 7: 0; Store 6 Never; Store 5 0; "+
		"Load 1: 7; Load 6: Never; no Cas 0; "+
		"Load 1: 7; no Cas 0; Load 6: Never")
	x.wantReply(t, 0, api.StEmpty)
	x.wantUsed(t, 0, 6)
}

// TestFailsBeginAnew: each Take has all its tries.
func TestFailsBeginAnew(t *testing.T) {
	x := newTable(t, api.Multi{Workers: 1, Per: 1, Cap: 1, Arity: 2, In: 0, Out: 1, Stick: 64, Tries: 64}, nil)
	for i := range 3 {
		x.take(t, 0)
		x.wantReply(t, 0, api.StEmpty)
		x.wantUsed(t, 0, 128*(i+1))
	}
	if n := x.a.Count(); n != 3*(128+1) {
		t.Errorf("Take: %d accesses", n)
	}
}

// TestWithoutDice: the lane 0 each time.
func TestWithoutDice(t *testing.T) {
	m := api.Multi{Workers: 2, Per: 2, Cap: 2, Arity: 2, In: 0, Out: 1, Stick: 1, Tries: 1}
	x := newTable(t, m, nil)
	x.hs[1] = open(t, m, 1, nil)
	x.insert(t, 1, pair(3, 3))
	x.insert(t, 1, pair(2, 2))
	if got := x.insert(t, 1, pair(1, 1)); !strings.HasPrefix(got, "Cas 0: 0 to 2; Load 2: 2; ") {
		t.Errorf("M2: %s", got)
	}
	x.wantReply(t, 1, api.StFull, pair(1, 1))
	if got := x.take(t, 1); !strings.HasPrefix(got, "Load 1: 2; Load 1: 2; Cas 0: 0 to 2; ") {
		t.Errorf("M2: %s", got)
	}
	x.wantReply(t, 1, api.StTask, pair(2, 2))
}

// TestSweepGoesOn: behind a lock and an empty lane, to the last.
func TestSweepGoesOn(t *testing.T) {
	m := api.Multi{Workers: 1, Per: 4, Cap: 1, Arity: 2, In: 0, Out: 3, Stick: 1, Tries: 1}
	x := newTable(t, m, nil, pair(9, 9), pair(8, 8), pair(7, 7), pair(6, 6))
	x.hs[0] = open(t, m, 0, nil)
	x.a.Poke(0, 9) // locked
	x.a.Poke(7, 0) // of no size, with a top
	x.a.Poke(11, never)
	wantText(t, x.take(t, 0), "Load 1: 9; Load 1: 9; no Cas 0; Load 1: 9; no Cas 0; "+
		"Load 6: 8; Cas 5: 0 to 1; Load 7: 0; Load 7: 0; Store 6 Never; Store 5 0; "+
		"Load 11: Never; Load 16: 6; Cas 15: 0 to 1; Load 17: 1; Load 18: 6; Load 19: 6; Store 17 0; Load 17: 0; Load 17: 0; Store 16 Never; Store 15 0")
	x.wantReply(t, 0, api.StTask, pair(6, 6))
}
