package ring_test

import (
	"fmt"
	"math/rand"
	"slices"
	"strings"
	"testing"

	"wayfare/api"
	"wayfare/arena"
	"wayfare/ring"
)

func open(t *testing.T, r api.Ring) *ring.Handle {
	t.Helper()
	h, e := ring.Open(r, 0)
	if h == nil || e != api.OK {
		t.Fatalf("N3: Open(%v) = %d", r, e)
	}
	return h
}

// table is handles at one ring.
type table struct {
	r     api.Ring
	a     *arena.Arena
	hs    []*ring.Handle
	ports []*arena.Port
}

func newTable(t *testing.T, r api.Ring, n int, tasks ...api.Task) *table {
	t.Helper()
	cells, e := ring.Fill(r, tasks)
	if e != api.OK {
		t.Fatalf("N2: Fill = %d", e)
	}
	x := &table{r: r}
	x.a, _ = arena.New(r.Base+len(cells), true)
	for i, v := range cells {
		x.a.Poke(r.Base+i, v)
	}
	for who := range n {
		p, _ := x.a.Port(who)
		x.hs, x.ports = append(x.hs, open(t, r)), append(x.ports, p)
	}
	return x
}

func (x *table) steps(who, n int) {
	for range n {
		x.ports[who].Grant()
		x.hs[who].Step(x.ports[who])
	}
}

// text is an access as the chapter's examples write it.
func text(x api.Access) string {
	switch {
	case x.Kind == api.AccLoad:
		return fmt.Sprintf("load %d: %d", x.Cell, x.Seen)
	case x.Kind == api.AccStore:
		return fmt.Sprintf("store %d: %d", x.Cell, x.Put)
	case x.Kind == api.AccCas && x.Ok:
		return fmt.Sprintf("cas %d, %d to %d", x.Cell, x.Want, x.Put)
	}
	return fmt.Sprintf("no cas %d", x.Cell)
}

// play plays the open operation to its end, and tells its accesses.
func (x *table) play(who int) string {
	from := x.a.Count()
	for i := 0; !x.hs[who].Over() && i < 100; i++ {
		x.steps(who, 1)
	}
	var out []string
	for _, y := range x.a.Log()[from:] {
		out = append(out, text(y))
	}
	return strings.Join(out, "; ")
}

func (x *table) wantReply(t *testing.T, who, status int, tasks ...api.Task) {
	t.Helper()
	if r := x.hs[who].Reply(); !x.hs[who].Over() || r.Status != status || !slices.Equal(r.Tasks, tasks) {
		t.Errorf("N4: Over %v, Reply = %v, want %d %v", x.hs[who].Over(), r, status, tasks)
	}
}

func (x *table) wantHeld(t *testing.T, want ...api.Task) {
	t.Helper()
	if l, e := ring.Held(x.r, x.a.Image(), x.hs); e != api.OK || !slices.Equal(l, want) {
		t.Errorf("N8: Held = %v, %d, want %v", l, e, want)
	}
}

// TestExamples: row by row.
func TestExamples(t *testing.T) {
	x := newTable(t, api.Ring{Cap: 2}, 1, pair(5, 1))
	if !slices.Equal(x.a.Image(), []uint64{1, 0, 1, 5, 1, 1, 0, 0}) {
		t.Errorf("N2: Fill = %v", x.a.Image())
	}
	h := x.hs[0]
	for i, c := range []struct {
		begin    func() api.Errno
		accesses string
		status   int
		tasks    []api.Task
	}{
		{func() api.Errno { return h.Insert(pair(7, 2)) }, "load 0: 1; load 5: 1; cas 0, 1 to 2; store 6: 7; store 7: 2; store 5: 2", api.StDone, nil},
		{func() api.Errno { return h.Insert(pair(8, 3)) }, "load 0: 2; load 2: 1", api.StFull, []api.Task{pair(8, 3)}},
		{h.Take, "load 1: 0; load 2: 1; cas 1, 0 to 1; load 3: 5; load 4: 1; store 2: 2", api.StTask, []api.Task{pair(5, 1)}},
		{h.Take, "load 1: 1; load 5: 2; cas 1, 1 to 2; load 6: 7; load 7: 2; store 5: 3", api.StTask, []api.Task{pair(7, 2)}},
		{h.Take, "load 1: 2; load 2: 2", api.StEmpty, nil},
	} {
		if e := c.begin(); e != api.OK || h.Over() {
			t.Fatalf("N4: row %d is refused: %d", i, e)
		}
		if got := x.play(0); got != c.accesses {
			t.Errorf("N6, N7: row %d:\n%s, want\n%s", i, got, c.accesses)
		}
		x.wantReply(t, 0, c.status, c.tasks...)
	}
}

// TestTwoHandles: the chapter's example of what is claimed and not yet filled, or not yet emptied.
func TestTwoHandles(t *testing.T) {
	x := newTable(t, api.Ring{Cap: 2}, 2)
	one := pair(1, 1)
	x.hs[0].Insert(one)
	x.wantHeld(t, one)
	x.steps(0, 3)
	if v, _ := x.a.Peek(0); v != 1 {
		t.Errorf("N6: the tail is %d", v)
	}
	x.hs[1].Take()
	if got := x.play(1); got != "load 1: 0; load 2: 0" {
		t.Errorf("N12: %s", got)
	}
	x.wantReply(t, 1, api.StEmpty)
	for range 3 {
		x.wantHeld(t, one)
		x.steps(0, 1)
	}
	x.wantReply(t, 0, api.StDone)
	x.wantHeld(t, one)
	x.hs[1].Take()
	for range 6 {
		x.wantHeld(t, one)
		x.steps(1, 1)
	}
	x.wantReply(t, 1, api.StTask, one)
	x.wantHeld(t)
}

// TestFullByOneThatIsClaimed: a slot that is claimed and not yet emptied has no room, though fewer than Cap are in slots.
func TestFullByOneThatIsClaimed(t *testing.T) {
	x := newTable(t, api.Ring{Base: 4, Cap: 2}, 2, pair(1, 1), pair(2, 2))
	x.hs[0].Take()
	x.steps(0, 3)
	x.hs[1].Insert(pair(3, 3))
	x.play(1)
	x.wantReply(t, 1, api.StFull, pair(3, 3))
	x.wantHeld(t, pair(1, 1), pair(2, 2))
	x.play(0)
	x.wantReply(t, 0, api.StTask, pair(1, 1))
	x.hs[1].Insert(pair(3, 3))
	x.play(1)
	x.wantReply(t, 1, api.StDone)
	x.wantHeld(t, pair(2, 2), pair(3, 3))
}

// TestLostRaces: whose Cas does not go, or who looks at a place that another has had, begins again at the counter.
func TestLostRaces(t *testing.T) {
	x := newTable(t, api.Ring{Cap: 3}, 2)
	x.hs[0].Insert(pair(1, 1))
	x.steps(0, 2)
	x.hs[1].Insert(pair(2, 2))
	x.play(1)
	if got := x.play(0); got != "no cas 0; load 0: 1; load 5: 1; cas 0, 1 to 2; store 6: 1; store 7: 1; store 5: 2" {
		t.Errorf("N6: %s", got)
	}
	x.hs[0].Insert(pair(3, 3))
	x.steps(0, 1)
	x.hs[1].Insert(pair(4, 4))
	x.play(1)
	if got := x.play(0); got != "load 8: 3; load 0: 3; load 2: 1" {
		t.Errorf("N6: %s", got)
	}
	x.wantReply(t, 0, api.StFull, pair(3, 3))
	x.hs[0].Take()
	x.steps(0, 2)
	x.hs[1].Take()
	x.play(1)
	x.wantReply(t, 1, api.StTask, pair(2, 2))
	x.steps(0, 2)
	x.hs[1].Take()
	x.play(1)
	x.wantReply(t, 1, api.StTask, pair(1, 1))
	if got := x.play(0); got != "load 5: 4; load 1: 2; load 8: 3; cas 1, 2 to 3; load 9: 4; load 10: 4; store 8: 5" {
		t.Errorf("N7: %s", got)
	}
	x.wantReply(t, 0, api.StTask, pair(4, 4))
}

// TestOneAtATime (N11): the ring is a queue of up to Cap, however often it goes round.
func TestOneAtATime(t *testing.T) {
	r := rand.New(rand.NewSource(1))
	for range 60 {
		x := newTable(t, api.Ring{Base: r.Intn(3), Cap: 2 + r.Intn(4)}, 2)
		var queue []api.Task
		for i := range 120 {
			who := r.Intn(2)
			if r.Intn(2) == 0 {
				c := pair(uint64(r.Intn(5)), uint64(i))
				x.hs[who].Insert(c)
				x.play(who)
				if len(queue) == x.r.Cap {
					x.wantReply(t, who, api.StFull, c)
					continue
				}
				queue = append(queue, c)
				x.wantReply(t, who, api.StDone)
				continue
			}
			x.hs[who].Take()
			x.play(who)
			if len(queue) == 0 {
				x.wantReply(t, who, api.StEmpty)
				continue
			}
			x.wantReply(t, who, api.StTask, queue[0])
			queue = queue[1:]
		}
	}
}

// TestPlaces: by the order in which the Cas of tails and heads go, the first one in is the first one out.
func TestPlaces(t *testing.T) {
	r := rand.New(rand.NewSource(2))
	for range 150 {
		x := newTable(t, api.Ring{Cap: 2 + r.Intn(3)}, 4)
		offered, claimed := make([]api.Task, 4), make([]uint64, 4)
		var came []api.Task // by their places
		gone := uint64(0)
		for i := range 300 {
			who := r.Intn(4)
			if x.hs[who].Over() {
				offered[who] = api.Task{}
				if r.Intn(2) == 0 {
					offered[who] = pair(uint64(i+1), uint64(who))
					x.hs[who].Insert(offered[who])
				} else {
					x.hs[who].Take()
				}
				continue
			}
			x.steps(who, 1)
			l := x.a.Log()
			switch y := l[len(l)-1]; {
			case y.Kind == api.AccCas && y.Ok && y.Cell == 0:
				if y.Want != uint64(len(came)) {
					t.Fatalf("N10: the place %d comes behind %d", y.Want, len(came))
				}
				came = append(came, offered[who])
			case y.Kind == api.AccCas && y.Ok && y.Cell == 1:
				if y.Want != gone {
					t.Fatalf("N10: the place %d goes behind %d", y.Want, gone)
				}
				claimed[who] = gone
				gone++
			}
			if got := x.hs[who].Reply(); got.Status == api.StTask && got.Tasks[0] != came[claimed[who]] {
				t.Fatalf("N10: of the place %d comes %v, in went %v", claimed[who], got.Tasks, came[claimed[who]])
			}
		}
	}
}

// TestEightSteps: wherever an operation stands, it is over in eight steps if no other makes any.
func TestEightSteps(t *testing.T) {
	r := rand.New(rand.NewSource(3))
	for range 1500 {
		x := newTable(t, api.Ring{Cap: 2 + r.Intn(2)}, 3)
		for range r.Intn(60) {
			who := r.Intn(3)
			switch {
			case !x.hs[who].Over():
				x.steps(who, 1)
			case r.Intn(5) < 3:
				x.hs[who].Insert(pair(1, 1))
			default:
				x.hs[who].Take()
			}
		}
		for who, h := range x.hs {
			from := x.a.Count()
			x.play(who)
			if n := x.a.Count() - from; !h.Over() || n > 8 {
				t.Fatalf("an operation alone makes %d steps", n)
			}
		}
	}
}
