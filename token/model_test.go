package token_test

import (
	"math/rand/v2"
	"slices"
	"testing"

	"wayfare/api"
	"wayfare/arena"
	"wayfare/loom"
	"wayfare/token"
)

const never uint64 = api.Never

// teller is a node as the chapter tells it: at is the number of its next access, 1 to 11; 0: it is over.
type teller struct {
	who, nodes, at int
	sends          []int
	burst          int
	active, black  bool
	left           uint64 // without the chapter's bound
	sent, balance  int
	m, q, k        uint64
}

func newTeller(c api.Circuit, who int) *teller {
	n := &teller{who: who, nodes: len(c.Sends), at: 1, sends: c.Sends[who], burst: c.Burst}
	if slices.Contains(c.Awake, who) {
		n.active, n.left = true, uint64(len(n.sends))
	}
	return n
}

// next is the access that comes next.
func (n *teller) next() api.Access {
	load := func(cell int) api.Access { return api.Access{Kind: api.AccLoad, Cell: cell} }
	store := func(cell int, v uint64) api.Access { return api.Access{Kind: api.AccStore, Cell: cell, Put: v} }
	switch n.at {
	case 1:
		return load(0)
	case 2:
		return api.Access{Kind: api.AccAdd, Cell: 4 + n.sends[n.sent], Put: 1}
	case 3:
		return load(4 + n.who)
	case 4:
		return api.Access{Kind: api.AccCas, Cell: 4 + n.who, Want: n.m, Put: n.m - 1}
	case 5:
		return load(1)
	case 6:
		return load(2)
	case 7:
		return load(3)
	case 8:
		if n.who == 0 {
			return store(2, 0)
		}
		return store(2, n.q+uint64(n.balance))
	case 9:
		if n.who != 0 && (n.k != 0 || n.black) {
			return store(3, 1)
		}
		return store(3, 0)
	case 10:
		if n.who == 0 {
			return store(1, uint64(n.nodes-1))
		}
		return store(1, uint64(n.who-1))
	}
	return store(0, 1)
}

// goOn goes on with what the access has answered.
func (n *teller) goOn(seen uint64, ok bool) {
	switch n.at {
	case 1:
		switch {
		case seen != 0:
			n.at = 0
		case n.active && n.left != 0 && n.sent < len(n.sends):
			n.at = 2
		default:
			n.active, n.at = false, 3
		}
	case 2:
		n.sent, n.balance, n.left, n.at = n.sent+1, n.balance+1, n.left-1, 1
	case 3:
		n.m, n.at = seen, 4
		if seen == 0 {
			n.at = 5
		}
	case 4:
		if ok {
			n.balance, n.black, n.active = n.balance-1, true, true
			n.left = min(n.left+uint64(n.burst), 1<<62)
		}
		n.at = 1
	case 5:
		n.at = 1
		if seen == uint64(n.who) {
			n.at = 6
		}
	case 6:
		n.q, n.at = seen, 7
	case 7:
		n.k, n.at = seen, 8
		if n.who == 0 && seen == 0 && !n.black && n.q+uint64(n.balance) == 0 {
			n.at = 11
		}
	case 8:
		n.at = 9
	case 9:
		n.black, n.at = false, 10
	case 10:
		n.at = 1
	case 11:
		n.at = 0
	}
}

func (n *teller) tell() api.Node {
	return api.Node{Balance: n.balance, Active: n.active, Black: n.black, Sent: n.sent, Over: n.at == 0}
}

// round is nodes over an arena, with the tellers of each, held against one another and against the promises at every pick.
type round struct {
	t       *testing.T
	c       api.Circuit
	a       *arena.Arena
	l       *loom.Loom
	nodes   []*token.Node
	tellers []*teller
}

func newRound(t *testing.T, c api.Circuit) *round {
	t.Helper()
	cells, e := token.Cells(c)
	if e != api.OK {
		t.Fatalf("T3: %v: %d", c, e)
	}
	r := &round{t: t, c: c}
	r.a, _ = arena.New(len(cells), true)
	for i, v := range cells {
		r.a.Poke(i, v)
	}
	var machines []loom.Machine
	for who := range c.Sends {
		n, e := token.New(c, who)
		if e != api.OK {
			t.Fatalf("T4: %v: %d", c, e)
		}
		r.nodes, machines = append(r.nodes, n), append(machines, n)
		r.tellers = append(r.tellers, newTeller(c, who))
	}
	r.l, _ = loom.New(r.a, machines)
	r.look()
	return r
}

// pick lets a node make a step, and looks that it is the one that is told.
func (r *round) pick(who int) {
	r.t.Helper()
	ahead, teller := r.a.Image(), r.tellers[who]
	count := r.a.Count()
	r.l.Pick(who)
	if teller.at == 0 {
		if r.a.Count() != count {
			r.t.Fatalf("T6: %v: the node %d is over, and goes on", r.c, who)
		}
		return
	}
	want := teller.next()
	if r.a.Count() != count+1 {
		r.t.Fatalf("T5: %v: the node %d makes no access, or two", r.c, who)
	}
	made := lastOf(r.a)
	if made.Who != who || made.Kind != want.Kind || made.Cell != want.Cell || made.Want != want.Want || made.Put != want.Put {
		r.t.Fatalf("T5: %v: the node %d makes %v, want %v", r.c, who, made, want)
	}
	r.lookAtWrite(made, ahead)
	teller.goOn(made.Seen, made.Ok)
	r.look()
}

// lastOf is the last access that was made.
func lastOf(a *arena.Arena) api.Access {
	log := a.Log()
	return log[len(log)-1]
}

// lookAtWrite looks at T10, and at T7 when done is stored and behind it.
func (r *round) lookAtWrite(made api.Access, ahead []uint64) {
	r.t.Helper()
	if made.Kind == api.AccLoad {
		return
	}
	if made.Cell >= 1 && made.Cell <= 3 && ahead[1] != uint64(made.Who) {
		r.t.Fatalf("T10: %v: %v, and the token is at %d", r.c, made, ahead[1])
	}
	if ahead[0] != 0 && made.Cell >= 4 && made.Left != made.Seen {
		r.t.Fatalf("T7: %v: %v behind done", r.c, made)
	}
	if made.Cell != 0 {
		return
	}
	for who, n := range r.nodes {
		if n.Tell().Active || ahead[4+who] != 0 {
			r.t.Fatalf("T7: %v: done is stored, the node %d is %v, %d under way", r.c, who, n.Tell(), ahead[4+who])
		}
	}
}

// look looks at what holds between any two picks.
func (r *round) look() {
	r.t.Helper()
	cells := r.a.Image()
	sum, under := 0, 0
	for who, n := range r.nodes {
		if n.Tell() != r.tellers[who].tell() || n.Over() != n.Tell().Over {
			r.t.Fatalf("T6: %v: the node %d is %v, want %v", r.c, who, n.Tell(), r.tellers[who].tell())
		}
		sum += n.Tell().Balance
		under += int(cells[4+who])
	}
	if sum != under {
		r.t.Fatalf("T8: %v: balances %d, under way %d", r.c, sum, under)
	}
	if cells[1] >= uint64(len(r.nodes)) {
		r.t.Fatalf("T10: %v: the token is at %d", r.c, cells[1])
	}
}

// finish picks in turns to the end, and looks at T9.
func (r *round) finish() {
	r.t.Helper()
	for i := 0; !r.l.Over(); i++ {
		if r.pick(i % len(r.nodes)); i > 1<<20 {
			r.t.Fatalf("T9: %v: no end", r.c)
		}
	}
	r.ended()
}

// ended looks at what holds when all are over.
func (r *round) ended() {
	r.t.Helper()
	cells := r.a.Image()
	if _, stopped := r.a.Fault(); stopped || cells[0] != 1 || slices.ContainsFunc(cells[4:], func(v uint64) bool { return v != 0 }) {
		r.t.Fatalf("T9: %v: %v", r.c, cells)
	}
	for who, n := range r.nodes {
		if !n.Over() || n.Tell().Active || slices.Contains(r.c.Awake, who) && n.Tell().Sent != len(r.c.Sends[who]) {
			r.t.Fatalf("T9: %v: the node %d is %v", r.c, who, n.Tell())
		}
	}
}

// someCircuit is one by chance.
func someCircuit(dice *rand.Rand) api.Circuit {
	n := 1 + dice.IntN(6)
	c := api.Circuit{Burst: dice.IntN(4)}
	for range n {
		var row []int
		for range dice.IntN(6) {
			row = append(row, dice.IntN(n))
		}
		c.Sends = append(c.Sends, row)
	}
	for range dice.IntN(n + 2) {
		c.Awake = append(c.Awake, dice.IntN(n))
	}
	return c
}
