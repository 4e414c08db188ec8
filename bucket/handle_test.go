package bucket_test

import (
	"fmt"
	"math/rand"
	"slices"
	"strings"
	"testing"

	"wayfare/api"
	"wayfare/arena"
	"wayfare/bucket"
)

func open(t *testing.T, b api.Bucket, who int) *bucket.Handle {
	t.Helper()
	h, e := bucket.Open(b, who)
	if h == nil || e != api.OK {
		t.Fatalf("U2: Open(%v, %d) = %d", b, who, e)
	}
	return h
}

// table is the workers of one pool.
type table struct {
	b     api.Bucket
	a     *arena.Arena
	hs    []*bucket.Handle
	ports []*arena.Port
}

func newTable(t *testing.T, b api.Bucket, tasks ...api.Task) *table {
	t.Helper()
	cells, e := bucket.Fill(b, tasks)
	if e != api.OK {
		t.Fatalf("U1: Fill = %d", e)
	}
	x := &table{b: b}
	x.a, _ = arena.New(b.Base+len(cells), true)
	for i, v := range cells {
		x.a.Poke(b.Base+i, v)
	}
	for who := range b.Workers {
		p, _ := x.a.Port(who)
		x.hs, x.ports = append(x.hs, open(t, b, who)), append(x.ports, p)
	}
	return x
}

func (x *table) steps(who, n int) {
	for range n {
		x.ports[who].Grant()
		x.hs[who].Step(x.ports[who])
	}
}

// text is an access as the chapter's examples write it.
func text(x api.Access) string {
	switch {
	case x.Kind == api.AccLoad:
		return fmt.Sprintf("Load %d (%d)", x.Cell, x.Seen)
	case x.Kind == api.AccStore:
		return fmt.Sprintf("Store %d (%d)", x.Cell, x.Put)
	case x.Kind == api.AccCas && x.Ok:
		return fmt.Sprintf("Cas %d (%d to %d)", x.Cell, x.Want, x.Put)
	}
	return fmt.Sprintf("no Cas %d", x.Cell)
}

// play plays the open operation to its end, and tells its accesses.
func (x *table) play(who int) string {
	from := x.a.Count()
	for i := 0; !x.hs[who].Over() && i < 10000; i++ {
		x.steps(who, 1)
	}
	var out []string
	for _, y := range x.a.Log()[from:] {
		out = append(out, text(y))
	}
	return strings.Join(out, ", ")
}

func (x *table) wantReply(t *testing.T, who, status int, tasks ...api.Task) {
	t.Helper()
	if r := x.hs[who].Reply(); !x.hs[who].Over() || r.Status != status || !slices.Equal(r.Tasks, tasks) {
		t.Errorf("U2: Over %v, Reply = %v, want %d %v", x.hs[who].Over(), r, status, tasks)
	}
}

func (x *table) wantHeld(t *testing.T, want ...api.Task) {
	t.Helper()
	if l, e := bucket.Held(x.b, x.a.Image(), x.hs); e != api.OK || !slices.Equal(l, want) {
		t.Errorf("U5: Held = %v, %d, want %v", l, e, want)
	}
}

// wantPlay plays an operation that was begun, and looks at its accesses and what it has come to.
func (x *table) wantPlay(t *testing.T, who int, accesses string, status int, tasks ...api.Task) {
	t.Helper()
	if got := x.play(who); got != accesses {
		t.Errorf("U3, U4:\n%s, want\n%s", got, accesses)
	}
	x.wantReply(t, who, status, tasks...)
}

var example = api.Bucket{Workers: 2, Slots: 2, Cap: 2, Width: 10}

// TestExamples: row by row.
func TestExamples(t *testing.T) {
	x := newTable(t, example, pair(5, 1), pair(25, 2), pair(17, 3))
	h := x.hs[0]
	h.Insert(pair(3, 4))
	x.wantPlay(t, 0, "Cas 0 (0 to 1), Load 1 (2), Store 0 (0)", api.StFull, pair(3, 4))
	h.Take()
	x.wantPlay(t, 0, "Load 1 (2), Cas 0 (0 to 1), Load 1 (2), Load 4 (25), Load 5 (2), Store 1 (1), Store 0 (0)", api.StTask, pair(25, 2))
	h.Take()
	x.wantPlay(t, 0, "Load 1 (1), Cas 0 (0 to 1), Load 1 (1), Load 2 (5), Load 3 (1), Store 1 (0), Store 0 (0)", api.StTask, pair(5, 1))
	h.Take()
	x.wantPlay(t, 0, "Load 1 (0), Load 7 (1), Cas 6 (0 to 1), Load 7 (1), Load 8 (17), Load 9 (3), Store 7 (0), Store 6 (0)", api.StTask, pair(17, 3))
	h.Take()
	x.wantPlay(t, 0, "Load 7 (0), Load 1 (0)", api.StEmpty)
	h.Take() // low is 0 again
	x.wantPlay(t, 0, "Load 1 (0), Load 7 (0)", api.StEmpty)
}

// TestInsertWaits for a lock that another has, one Cas a step.
func TestInsertWaits(t *testing.T) {
	x := newTable(t, example, pair(17, 3))
	x.hs[1].Take()
	x.steps(1, 3) // it has the lock of the stack 1
	x.hs[0].Insert(pair(13, 5))
	for range 4 {
		x.steps(0, 1)
		if l := x.a.Log(); x.hs[0].Over() || text(l[len(l)-1]) != "no Cas 6" {
			t.Fatalf("U3: it does not wait: %v", l)
		}
		x.wantHeld(t, pair(13, 5), pair(17, 3))
	}
	x.play(1)
	x.wantReply(t, 1, api.StTask, pair(17, 3))
	x.wantPlay(t, 0, "Cas 6 (0 to 1), Load 7 (0), Store 8 (13), Store 9 (5), Store 7 (1), Store 6 (0)", api.StDone)
}

// TestTakePassesBy a stack whose lock another has, or that was emptied since its size was looked at.
func TestTakePassesBy(t *testing.T) {
	x := newTable(t, example, pair(5, 1))
	x.hs[1].Take()
	x.steps(1, 2)
	x.hs[0].Take()
	x.wantPlay(t, 0, "Load 1 (1), no Cas 0, Load 7 (0)", api.StEmpty)
	x.hs[0].Take()
	x.steps(0, 1)
	x.play(1)
	x.wantReply(t, 1, api.StTask, pair(5, 1))
	x.wantPlay(t, 0, "Cas 0 (0 to 1), Load 1 (0), Store 0 (0), Load 7 (0)", api.StEmpty)
	x.wantHeld(t)
}

// TestLow: where a Take begins is told by its first access.
func TestLow(t *testing.T) {
	b := api.Bucket{Base: 2, Workers: 1, Slots: 3, Cap: 2, Width: 1}
	x := newTable(t, b, pair(2, 0))
	h, size := x.hs[0], []string{"Load 3", "Load 9", "Load 15"}
	first := func(stack int) {
		t.Helper()
		from := x.a.Count()
		h.Take()
		x.play(0)
		if got := text(x.a.Log()[from]); !strings.HasPrefix(got, size[stack]+" ") {
			t.Errorf("U3, U4: a Take begins with %s, want the stack %d", got, stack)
		}
	}
	put := func(key uint64) {
		h.Insert(pair(key, 0))
		x.play(0)
	}
	first(0) // and takes of the stack 2
	x.wantReply(t, 0, api.StTask, pair(2, 0))
	put(2)
	put(5) // low is 2 yet
	first(2)
	put(1) // low is 1
	put(2) // and stays
	first(1)
	x.wantReply(t, 0, api.StTask, pair(1, 0))
	put(4)
	put(7)
	put(0)
	put(3)
	put(6) // of which the stack has no room: low is 0 all the same, by those ahead
	x.wantReply(t, 0, api.StFull, pair(6, 0))
	first(0)
	first(0)
	first(0) // nothing there: on to 1
	x.wantReply(t, 0, api.StTask, pair(7, 0))
	first(1)
	first(1)
	first(2)
	first(2)
	x.wantReply(t, 0, api.StEmpty)
	first(0)
	x.wantReply(t, 0, api.StEmpty)
}

// TestFullLeavesLow: a stack that has no room for a task does not become low.
func TestFullLeavesLow(t *testing.T) {
	x := newTable(t, api.Bucket{Workers: 2, Slots: 2, Cap: 1, Width: 1}, pair(0, 0), pair(1, 1))
	x.hs[0].Take()
	x.play(0)
	x.hs[0].Take() // the stack 1 becomes low
	x.play(0)
	x.hs[1].Insert(pair(0, 0))
	x.play(1)
	x.hs[0].Insert(pair(2, 2))
	x.play(0)
	x.wantReply(t, 0, api.StFull, pair(2, 2))
	x.hs[0].Take()
	x.wantPlay(t, 0, "Load 5 (0), Load 1 (1), Cas 0 (0 to 1), Load 1 (1), Load 2 (0), Load 3 (0), Store 1 (0), Store 0 (0)", api.StTask, pair(0, 0))
}

// TestOneStack: with nothing in it a Take is over behind its first Load.
func TestOneStack(t *testing.T) {
	x := newTable(t, api.Bucket{Base: 1, Workers: 64, Slots: 1, Cap: 1, Width: never})
	x.hs[63].Take()
	x.wantPlay(t, 63, "Load 2 (0)", api.StEmpty)
	x.hs[63].Insert(pair(never-1, never))
	x.wantPlay(t, 63, fmt.Sprintf("Cas 1 (0 to 64), Load 2 (0), Store 3 (%d), Store 4 (%d), Store 2 (1), Store 1 (0)", uint64(never-1), uint64(never)), api.StDone)
	x.hs[63].Insert(pair(0, 0))
	x.wantPlay(t, 63, "Cas 1 (0 to 64), Load 2 (1), Store 1 (0)", api.StFull, pair(0, 0))
	x.a.Poke(2, 9) // counts as 1
	x.hs[0].Insert(pair(0, 0))
	x.wantPlay(t, 0, "Cas 1 (0 to 1), Load 2 (9), Store 1 (0)", api.StFull, pair(0, 0))
	x.hs[0].Take()
	x.wantPlay(t, 0, fmt.Sprintf("Load 2 (9), Cas 1 (0 to 1), Load 2 (9), Load 3 (%d), Load 4 (%d), Store 2 (0), Store 1 (0)", uint64(never-1), uint64(never)), api.StTask, pair(never-1, never))
}

// TestHeldAtEachStep: an Insert has its task up to its Store of the size, a Take from there on.
func TestHeldAtEachStep(t *testing.T) {
	x := newTable(t, example, pair(5, 1))
	x.hs[1].Insert(pair(7, 7))
	for range 6 {
		x.wantHeld(t, pair(5, 1), pair(7, 7))
		x.steps(1, 1)
	}
	x.wantReply(t, 1, api.StDone)
	x.hs[0].Take()
	for range 7 {
		x.wantHeld(t, pair(5, 1), pair(7, 7))
		x.steps(0, 1)
	}
	x.wantReply(t, 0, api.StTask, pair(7, 7))
	x.wantHeld(t, pair(5, 1))
	x.hs[0].Take() // what a Take was answered with is not held by the next one
	x.wantHeld(t, pair(5, 1))
	x.play(0)
	x.wantHeld(t)
}

// TestLocks: of each stack at most one operation has the lock, and its cell tells whose it is.
func TestLocks(t *testing.T) {
	r := rand.New(rand.NewSource(1))
	for range 100 {
		b := api.Bucket{Workers: 1 + r.Intn(4), Slots: 1 + r.Intn(3), Cap: 1 + r.Intn(3), Width: 1 + uint64(r.Intn(3))}
		x := newTable(t, b)
		owners := make([]uint64, b.Slots) // who has the lock, and one, by the log
		for range 400 {
			who := r.Intn(b.Workers)
			switch {
			case x.hs[who].Over() && r.Intn(2) == 0:
				x.hs[who].Insert(pair(uint64(r.Intn(9)), 1))
				continue
			case x.hs[who].Over():
				x.hs[who].Take()
				continue
			}
			x.steps(who, 1)
			l := x.a.Log()
			y := l[len(l)-1]
			s, at := y.Cell/(2+2*b.Cap), y.Cell%(2+2*b.Cap)
			switch {
			case at == 0 && y.Kind == api.AccCas && y.Ok:
				if owners[s] != 0 {
					t.Fatal("U6: two have one lock")
				}
				owners[s] = uint64(who) + 1
			case at == 0 && y.Kind == api.AccStore:
				if owners[s] != uint64(who)+1 || y.Put != 0 {
					t.Fatal("U6: another's lock is freed")
				}
				owners[s] = 0
			case y.Kind == api.AccStore || at > 1:
				if owners[s] != uint64(who)+1 {
					t.Fatalf("U6: without the lock: %v", y)
				}
			}
			if v, _ := x.a.Peek(s * (2 + 2*b.Cap)); v != owners[s] {
				t.Fatalf("U6: the lock is %d, want %d", v, owners[s])
			}
		}
		for who, h := range x.hs {
			if h.Over() && slices.Contains(owners, uint64(who)+1) {
				t.Fatal("U6: one that is over has a lock")
			}
		}
	}
}

// TestOneAtATime (U7): when StFull and StEmpty come, and of which stack a task is.
func TestOneAtATime(t *testing.T) {
	r := rand.New(rand.NewSource(2))
	for range 100 {
		b := api.Bucket{Workers: 1 + r.Intn(3), Slots: 1 + r.Intn(4), Cap: 1 + r.Intn(3), Width: 1 + uint64(r.Intn(3))}
		x := newTable(t, b)
		stacks, low := make([][]api.Task, b.Slots), make([]int, b.Workers)
		for i := range 150 {
			who := r.Intn(b.Workers)
			if r.Intn(2) == 0 {
				c := pair(uint64(r.Intn(12)), uint64(i))
				s := int(c.Key/b.Width) % b.Slots
				x.hs[who].Insert(c)
				x.play(who)
				if len(stacks[s]) == b.Cap {
					x.wantReply(t, who, api.StFull, c)
					continue
				}
				x.wantReply(t, who, api.StDone)
				stacks[s], low[who] = append(stacks[s], c), min(low[who], s)
				continue
			}
			x.hs[who].Take()
			x.play(who)
			found := -1
			for i := range b.Slots {
				if s := (low[who] + i) % b.Slots; found < 0 && len(stacks[s]) > 0 {
					found = s
				}
			}
			if low[who] = max(found, 0); found < 0 {
				x.wantReply(t, who, api.StEmpty)
				continue
			}
			last := len(stacks[found]) - 1
			x.wantReply(t, who, api.StTask, stacks[found][last])
			stacks[found] = stacks[found][:last]
		}
	}
}
