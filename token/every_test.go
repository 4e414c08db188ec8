package token

import (
	"reflect"
	"slices"
	"testing"

	"wayfare/api"
	"wayfare/arena"
)

const mostNodes = 3

// state is all that a circuit's future hangs on.
type state struct {
	cells [mailCell + mostNodes]uint64
	nodes [mostNodes]stand
}

// stand is all that a node's future hangs on.
type stand struct {
	registers
	next                uintptr
	mail, count, colour uint64
}

// world is nodes and their cells, that can be copied.
type world struct {
	cells []uint64
	nodes []Node
}

func newWorld(t *testing.T, c api.Circuit) world {
	t.Helper()
	var w world
	var e api.Errno
	if w.cells, e = Cells(c); e != api.OK {
		t.Fatal(e)
	}
	for who := range c.Sends {
		n, _ := New(c, who)
		w.nodes = append(w.nodes, *n)
	}
	return w
}

func (w world) state() state {
	var s state
	copy(s.cells[:], w.cells)
	for i, n := range w.nodes {
		s.nodes[i] = stand{n.registers, reflect.ValueOf(n.next).Pointer(), n.mail, n.count, n.colour}
	}
	return s
}

// stepped is the world behind a step of one node, and the access that it made.
func (w world) stepped(who int) (world, api.Access) {
	a, _ := arena.New(len(w.cells), true)
	for i, v := range w.cells {
		a.Poke(i, v)
	}
	p, _ := a.Port(who)
	p.Grant()
	out := world{nodes: slices.Clone(w.nodes)}
	out.nodes[who].Step(p)
	out.cells = a.Image()
	return out, a.Log()[0]
}

// wantStep looks at T7, T8 and T10 over one step.
func wantStep(t *testing.T, ahead, behind world, made api.Access) {
	t.Helper()
	sum, under, active := uint64(0), uint64(0), false
	for i, n := range behind.nodes {
		sum += n.balance
		under += behind.cells[mailCell+i]
		active = active || n.active
	}
	if sum != under {
		t.Fatalf("T8: balances %d, under way %d", int64(sum), under)
	}
	if made.Cell >= placeCell && made.Cell <= colourCell && made.Kind != api.AccLoad && ahead.cells[placeCell] != uint64(made.Who) {
		t.Fatalf("T10: %v, the token is at %d", made, ahead.cells[placeCell])
	}
	if behind.cells[doneCell] != 0 && (under != 0 || active) {
		t.Fatalf("T7: done, and %d under way, active %v", under, active)
	}
	if ahead.cells[doneCell] != 0 && !slices.Equal(ahead.cells, behind.cells) {
		t.Fatalf("T7: behind done: %v, then %v", ahead.cells, behind.cells)
	}
}

// wantEnd goes on in turns from a world that script has led to, and looks at T9. What is known to come to its end in turns from a node on need not be gone again.
func wantEnd(t *testing.T, c api.Circuit, w world, ends map[turn]bool) {
	t.Helper()
	var gone []turn
	for who := 0; ; who = (who + 1) % len(w.nodes) {
		if !slices.ContainsFunc(w.nodes, func(n Node) bool { return !n.Over() }) {
			break
		}
		at := turn{w.state(), who}
		if ends[at] {
			break
		}
		if gone = append(gone, at); len(gone) > 10000 {
			t.Fatalf("T9: %v: no end", c)
		}
		if !w.nodes[who].Over() {
			w, _ = w.stepped(who)
		}
	}
	for _, at := range gone {
		ends[at] = true
	}
	if slices.ContainsFunc(w.nodes, func(n Node) bool { return !n.Over() }) {
		return // it was looked at when it was gone
	}
	for who, n := range w.nodes {
		if w.cells[doneCell] != 1 || slices.Contains(c.Awake, who) && n.sent != len(c.Sends[who]) {
			t.Fatalf("T9: %v: %v, the node %d has sent %d", c, w.cells, who, n.sent)
		}
	}
}

// turn is a state and whose turn it is.
type turn struct {
	state
	who int
}

// TestEveryInterleaving: T7 to T10 in each state to which any picks lead small circuits.
func TestEveryInterleaving(t *testing.T) {
	for _, c := range []api.Circuit{
		{Sends: [][]int{{0, 0}}, Awake: []int{0}},
		{Sends: [][]int{{1}, {}}, Awake: []int{0}},
		{Sends: [][]int{{}, {0}}, Awake: []int{1}},
		{Sends: [][]int{{1, 1}, {0}}, Awake: []int{0}, Burst: 1},
		{Sends: [][]int{{1}, {0, 1}}, Awake: []int{0, 1}, Burst: 1},
		{Sends: [][]int{{1, 1}, {0, 0}}, Burst: 1},
		{Sends: [][]int{{2}, {}, {1}}, Awake: []int{0}, Burst: 1},
		{Sends: [][]int{{}, {2}, {1}}, Awake: []int{1}, Burst: 1},
		{Sends: [][]int{{1}, {2}, {}}, Awake: []int{0}, Burst: 1},
		{Sends: [][]int{{1, 1, 0}, {0, 1, 0}}, Awake: []int{0, 1}, Burst: 2},
		{Sends: [][]int{{1, 2}, {0, 2}, {0, 1}}, Awake: []int{0, 2}, Burst: 1},
	} {
		first := newWorld(t, c)
		known := map[state]bool{first.state(): true}
		ends := map[turn]bool{}
		for open := []world{first}; len(open) > 0; {
			w := open[len(open)-1]
			open = open[:len(open)-1]
			wantEnd(t, c, w, ends)
			for who := range w.nodes {
				if w.nodes[who].Over() {
					continue
				}
				behind, made := w.stepped(who)
				wantStep(t, w, behind, made)
				if s := behind.state(); !known[s] {
					known[s] = true
					open = append(open, behind)
				}
			}
		}
		t.Logf("%v: %d states", c, len(known))
	}
}
