package steal_test

import (
	"fmt"
	"math/rand"
	"slices"
	"strings"
	"testing"

	"wayfare/api"
	"wayfare/arena"
	"wayfare/dice"
	"wayfare/steal"
)

func open(t *testing.T, s api.Steal, who int) *steal.Handle {
	t.Helper()
	h, e := steal.Open(s, who, nil)
	if h == nil || e != api.OK {
		t.Fatalf("K2: Open(%v, %d) = %d", s, who, e)
	}
	return h
}

// table is the workers of one pool.
type table struct {
	s     api.Steal
	a     *arena.Arena
	hs    []*steal.Handle
	ports []*arena.Port
	dice  []*dice.Dice
}

// newTable is a filled pool; each worker draws the given words first.
func newTable(t *testing.T, s api.Steal, words []uint64, tasks ...api.Task) *table {
	t.Helper()
	cells, e := steal.Fill(s, tasks)
	if e != api.OK {
		t.Fatalf("K1: Fill = %d", e)
	}
	x := &table{s: s}
	x.a, _ = arena.New(s.Base+len(cells), true)
	for i, v := range cells {
		x.a.Poke(s.Base+i, v)
	}
	for who := range s.Workers {
		p, _ := x.a.Port(who)
		d := dice.New(uint64(who), words)
		h, e := steal.Open(s, who, d)
		if e != api.OK {
			t.Fatalf("K2: Open = %d", e)
		}
		x.hs, x.ports, x.dice = append(x.hs, h), append(x.ports, p), append(x.dice, d)
	}
	return x
}

func (x *table) steps(who, n int) {
	for range n {
		x.ports[who].Grant()
		x.hs[who].Step(x.ports[who])
	}
}

// text is an access as the chapter's examples write it.
func text(x api.Access) string {
	switch {
	case x.Kind == api.AccLoad:
		return fmt.Sprintf("Load %d (%d)", x.Cell, x.Seen)
	case x.Kind == api.AccStore:
		return fmt.Sprintf("Store %d (%d)", x.Cell, x.Put)
	case x.Kind == api.AccCas && x.Ok:
		return fmt.Sprintf("Cas %d (%d to %d)", x.Cell, x.Want, x.Put)
	}
	return fmt.Sprintf("no Cas %d", x.Cell)
}

// play plays the open operation to its end, and tells its accesses.
func (x *table) play(who int) string {
	from := x.a.Count()
	for i := 0; !x.hs[who].Over() && i < 1000; i++ {
		x.steps(who, 1)
	}
	var out []string
	for _, y := range x.a.Log()[from:] {
		out = append(out, text(y))
	}
	return strings.Join(out, ", ")
}

func (x *table) wantReply(t *testing.T, who, status int, tasks ...api.Task) {
	t.Helper()
	if r := x.hs[who].Reply(); !x.hs[who].Over() || r.Status != status || !slices.Equal(r.Tasks, tasks) {
		t.Errorf("K2: Over %v, Reply = %v, want %d %v", x.hs[who].Over(), r, status, tasks)
	}
}

func (x *table) wantHeld(t *testing.T, want ...api.Task) {
	t.Helper()
	if l, e := steal.Held(x.s, x.a.Image(), x.hs); e != api.OK || !slices.Equal(l, want) {
		t.Errorf("K6: Held = %v, %d, want %v", l, e, want)
	}
}

// wantPlay plays an operation that was begun, and looks at its accesses and what it has come to.
func (x *table) wantPlay(t *testing.T, who int, accesses string, status int, tasks ...api.Task) {
	t.Helper()
	if got := x.play(who); got != accesses {
		t.Errorf("K3 to K5:\n%s, want\n%s", got, accesses)
	}
	x.wantReply(t, who, status, tasks...)
}

var three = []api.Task{pair(5, 1), pair(6, 2), pair(7, 3)}

// TestExamples: row by row.
func TestExamples(t *testing.T) {
	x := newTable(t, api.Steal{Workers: 2, Cap: 2, Tries: 1}, []uint64{1 << 63, 0}, three...)
	h := x.hs[0]
	h.Insert(pair(8, 4))
	x.wantPlay(t, 0, "Load 1 (3), Load 0 (1)", api.StFull, pair(8, 4))
	h.Take()
	x.wantPlay(t, 0, "Load 1 (3), Store 1 (2), Load 0 (1), Load 2 (7), Load 3 (3)", api.StTask, pair(7, 3))
	h.Take()
	for range 7 {
		x.wantHeld(t, pair(5, 1), pair(6, 2)) // behind its Cas too
		x.steps(0, 1)
	}
	x.wantReply(t, 0, api.StTask, pair(5, 1))
	x.wantHeld(t, pair(6, 2))
	var last []string
	for _, y := range x.a.Log()[7:] {
		last = append(last, text(y))
	}
	if got := strings.Join(last, ", "); got != "Load 1 (2), Store 1 (1), Load 0 (1), Load 4 (5), Load 5 (1), Cas 0 (1 to 2), Store 1 (2)" {
		t.Errorf("K4: %s", got)
	}
	if n := x.dice[0].Used(); n != 0 {
		t.Errorf("K4: %d draws ahead of the first that is needed", n)
	}
	h.Take()
	x.wantPlay(t, 0, "Load 1 (2), Store 1 (1), Load 0 (2), Store 1 (2), Load 6 (1), Load 7 (2), Load 10 (6), Load 11 (2), Cas 6 (1 to 2)", api.StTask, pair(6, 2))
	h.Take()
	x.wantPlay(t, 0, "Load 1 (2), Store 1 (1), Load 0 (2), Store 1 (2), Load 6 (2), Load 7 (2)", api.StEmpty)
	if n := x.dice[0].Used(); n != 2 {
		t.Errorf("K4: %d draws", n)
	}
	x.wantHeld(t)
}

// TestInsert: access by access, at a Base; the slot is that of the bottom.
func TestInsert(t *testing.T) {
	x := newTable(t, api.Steal{Base: 3, Workers: 2, Cap: 3, Tries: 1}, nil)
	x.hs[1].Insert(pair(9, 8))
	for range 5 {
		x.wantHeld(t, pair(9, 8))
		x.steps(1, 1)
	}
	x.wantReply(t, 1, api.StDone)
	x.wantHeld(t, pair(9, 8))
	for i, want := range []string{"Load 12 (1)", "Load 11 (1)", "Store 15 (9)", "Store 16 (8)", "Store 12 (2)"} {
		if got := text(x.a.Log()[i]); got != want {
			t.Errorf("K3: access %d: %s, want %s", i, got, want)
		}
	}
}

// TestOneWorker: it draws itself alone, makes no access by that, and has nobody to go round.
func TestOneWorker(t *testing.T) {
	for _, tries := range []int{1, 5, api.MaxTries} {
		x := newTable(t, api.Steal{Workers: 1, Cap: 1, Tries: tries}, nil, pair(4, 4))
		x.hs[0].Insert(pair(5, 5))
		x.wantPlay(t, 0, "Load 1 (2), Load 0 (1)", api.StFull, pair(5, 5))
		x.hs[0].Take()
		x.wantPlay(t, 0, "Load 1 (2), Store 1 (1), Load 0 (1), Load 2 (4), Load 3 (4), Cas 0 (1 to 2), Store 1 (2)", api.StTask, pair(4, 4))
		x.hs[0].Take()
		x.steps(0, 3)
		if n := x.dice[0].Used(); n != 0 {
			t.Errorf("K4: %d draws ahead of the own deque's last access", n)
		}
		x.wantPlay(t, 0, "Store 1 (2)", api.StEmpty)
		if n := x.dice[0].Used(); n != tries {
			t.Errorf("K4: Tries %d: %d draws", tries, n)
		}
	}
}

// TestTries: as many victims as there are tries, each drawn when it is needed; then all in their turn.
func TestTries(t *testing.T) {
	x := newTable(t, api.Steal{Workers: 4, Cap: 1, Tries: 3}, []uint64{1 << 63, 3 << 62, 1 << 62})
	x.hs[1].Take() // draws 2, 3, 1
	x.steps(1, 3)
	for i, c := range []struct {
		access string
		used   int // behind it
	}{
		{"Store 5 (1)", 1},
		{"Load 8 (1)", 1}, {"Load 9 (1)", 2},
		{"Load 12 (1)", 2}, {"Load 13 (1)", 3}, // the third one is itself
		{"Load 0 (1)", 3}, {"Load 1 (1)", 3},
		{"Load 8 (1)", 3}, {"Load 9 (1)", 3},
		{"Load 12 (1)", 3}, {"Load 13 (1)", 3},
	} {
		if x.hs[1].Over() {
			t.Fatalf("K4: over ahead of %d", i)
		}
		x.steps(1, 1)
		l := x.a.Log()
		if got := text(l[len(l)-1]); got != c.access || x.dice[1].Used() != c.used {
			t.Errorf("K4: access %d: %s behind %d draws, want %s, %d", i, got, x.dice[1].Used(), c.access, c.used)
		}
	}
	x.wantReply(t, 1, api.StEmpty)
}

// TestWithoutDice: the victim is 0 each time.
func TestWithoutDice(t *testing.T) {
	s := api.Steal{Workers: 3, Cap: 1, Tries: 2}
	x := newTable(t, s, nil, pair(1, 1), pair(2, 2), pair(3, 3))
	for _, who := range []int{0, 1, 2} {
		x.hs[who] = open(t, s, who)
	}
	x.hs[1].Take()
	x.wantPlay(t, 1, "Load 5 (2), Store 5 (1), Load 4 (1), Load 6 (2), Load 7 (2), Cas 4 (1 to 2), Store 5 (2)", api.StTask, pair(2, 2))
	x.hs[1].Take()
	x.wantPlay(t, 1, "Load 5 (2), Store 5 (1), Load 4 (2), Store 5 (2), Load 0 (1), Load 1 (2), Load 2 (1), Load 3 (1), Cas 0 (1 to 2)", api.StTask, pair(1, 1))
	x.hs[0].Take()
	x.wantPlay(t, 0, "Load 1 (2), Store 1 (1), Load 0 (2), Store 1 (2), Load 4 (2), Load 5 (2), Load 8 (1), Load 9 (2), Load 10 (3), Load 11 (3), Cas 8 (1 to 2)", api.StTask, pair(3, 3))
}

// TestLastOne: worker 1 has one task, and worker 0 is at it too: whoever's Cas comes first has it, at whatever steps the two meet.
func TestLastOne(t *testing.T) {
	for ownSteps := range 7 {
		for thiefSteps := range 10 {
			x := newTable(t, api.Steal{Workers: 2, Cap: 2, Tries: 1}, []uint64{1 << 63})
			b := pair(6, 2)
			x.hs[1].Insert(b)
			x.play(1)
			x.hs[0].Take()
			x.hs[1].Take()
			x.steps(0, thiefSteps)
			x.steps(1, ownSteps)
			x.play(0)
			x.play(1)
			r, s := x.hs[0].Reply(), x.hs[1].Reply()
			if r.Status == api.StEmpty {
				r, s = s, r
			}
			if r.Status != api.StTask || !slices.Equal(r.Tasks, []api.Task{b}) || s.Status != api.StEmpty {
				t.Errorf("K4, K5: behind %d and %d steps: %v, %v", thiefSteps, ownSteps, r, s)
			}
			x.wantHeld(t)
		}
	}
}

// TestLostRace: what was read is not told, and the search goes on.
func TestLostRace(t *testing.T) {
	x := newTable(t, api.Steal{Workers: 3, Cap: 2, Tries: 1}, []uint64{3 << 62}, pair(1, 1), pair(2, 2), pair(3, 3))
	x.hs[0].Take()
	x.play(0)
	x.hs[1].Take()
	x.play(1)
	x.hs[0].Take() // 0 and 1 are after the task of 2
	x.steps(0, 8)
	x.hs[1].Take()
	x.steps(1, 8)
	x.steps(0, 1)
	x.wantReply(t, 0, api.StTask, pair(3, 3))
	x.wantPlay(t, 1, "no Cas 12, Load 0 (2), Load 1 (2), Load 12 (2), Load 13 (2)", api.StEmpty)
	x.wantHeld(t)
}

// TestIndices: between any two steps no top has fallen, no bottom is below 0, and none is more than one below its top.
func TestIndices(t *testing.T) {
	r := rand.New(rand.NewSource(1))
	for range 100 {
		s := api.Steal{Workers: 1 + r.Intn(4), Cap: 1 + r.Intn(3), Tries: 1 + r.Intn(3)}
		x := newTable(t, s, nil)
		tops := make([]uint64, s.Workers)
		for range 400 {
			who := r.Intn(s.Workers)
			switch {
			case !x.hs[who].Over():
				x.steps(who, 1)
			case r.Intn(2) == 0:
				x.hs[who].Insert(pair(uint64(r.Intn(9)), 1))
			default:
				x.hs[who].Take()
			}
			for w := range s.Workers {
				top, _ := x.a.Peek(w * (2 + 2*s.Cap))
				bottom, _ := x.a.Peek(w*(2+2*s.Cap) + 1)
				if top < tops[w] || bottom+1 < top || bottom > top+uint64(s.Cap) || bottom > 1<<32 {
					t.Fatalf("K7: the top of %d goes from %d to %d, its bottom is %d", w, tops[w], top, bottom)
				}
				tops[w] = top
			}
		}
	}
}

// TestEmptyHandedTakes: each has found its own deque empty or lost its last one, and in the end has looked at each other deque once, and found it so too.
func TestEmptyHandedTakes(t *testing.T) {
	r, seen, lost := rand.New(rand.NewSource(2)), 0, 0
	for range 200 {
		s := api.Steal{Workers: 2 + r.Intn(3), Cap: 1 + r.Intn(2), Tries: 1 + r.Intn(2)}
		x := newTable(t, s, nil)
		made := make([][]api.Access, s.Workers)
		for range 400 {
			who := r.Intn(s.Workers)
			if !x.hs[who].Over() {
				x.steps(who, 1)
				l := x.a.Log()
				made[who] = append(made[who], l[len(l)-1])
				if x.hs[who].Reply().Status == api.StEmpty {
					seen++
					lost += emptyHanded(t, s, who, made[who])
				}
				continue
			}
			made[who] = nil
			if r.Intn(3) == 0 {
				x.hs[who].Insert(pair(uint64(r.Intn(9)), 1))
			} else {
				x.hs[who].Take()
			}
		}
	}
	if seen < 300 || lost < 20 {
		t.Errorf("only %d Takes come empty-handed, %d of them by a lost race", seen, lost)
	}
}

// emptyHanded looks at the accesses of a Take that ended with StEmpty, and tells how many races it has lost in its last round.
func emptyHanded(t *testing.T, s api.Steal, who int, made []api.Access) int {
	t.Helper()
	own := who * (2 + 2*s.Cap)
	if top, index := made[2].Seen, made[1].Put; made[2].Cell != own || top < index {
		t.Fatalf("K8: its own deque has tasks: %v", made)
	} else if top == index && (made[5].Kind != api.AccCas || made[5].Ok) {
		t.Fatalf("K8: it has not lost its own last one: %v", made)
	}
	lost := 0
	for v := s.Workers - 1; v >= 0; v-- {
		if v == who {
			continue
		}
		last, top := made[len(made)-1], v*(2+2*s.Cap)
		if last.Kind == api.AccCas {
			if last.Ok || last.Cell != top {
				t.Fatalf("K8: at the deque %d: %v", v, made)
			}
			lost++
			made = made[:len(made)-5]
			continue
		}
		ahead := made[len(made)-2]
		if last.Cell != top+1 || ahead.Cell != top || ahead.Seen < last.Seen {
			t.Fatalf("K8: at the deque %d: %v", v, made)
		}
		made = made[:len(made)-2]
	}
	return lost
}
