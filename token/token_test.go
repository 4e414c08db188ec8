package token_test

import (
	"math"
	"math/rand/v2"
	"slices"
	"testing"

	"wayfare/api"
	"wayfare/arena"
	"wayfare/loom"
	"wayfare/token"
)

// short is an access as the examples write it.
type short struct {
	who, kind, cell int
	word            uint64 // what a load saw, what a store, an add or a cas put
}

func shorts(log []api.Access) []short {
	var out []short
	for _, x := range log {
		word := x.Put
		if x.Kind == api.AccLoad {
			word = x.Seen
		}
		out = append(out, short{x.Who, x.Kind, x.Cell, word})
	}
	return out
}

const (
	load  = api.AccLoad
	store = api.AccStore
	cas   = api.AccCas
	add   = api.AccAdd
)

func TestOneNode(t *testing.T) {
	r := newRound(t, api.Circuit{Sends: [][]int{{}}, Awake: []int{0}})
	if r.nodes[0].Tell() != (api.Node{Active: true}) {
		t.Errorf("T4: %v", r.nodes[0].Tell())
	}
	r.finish()
	want := []short{
		{0, load, 0, 0}, {0, load, 4, 0}, {0, load, 1, 0}, {0, load, 2, 0}, {0, load, 3, 1}, {0, store, 2, 0}, {0, store, 3, 0}, {0, store, 1, 0},
		{0, load, 0, 0}, {0, load, 4, 0}, {0, load, 1, 0}, {0, load, 2, 0}, {0, load, 3, 0}, {0, store, 0, 1},
	}
	if got := shorts(r.a.Log()); !slices.Equal(got, want) {
		t.Errorf("T5: %v, want %v", got, want)
	}
	if r.nodes[0].Tell() != (api.Node{Over: true}) {
		t.Errorf("T6: %v", r.nodes[0].Tell())
	}
}

// TestTwoNodes: the chapter's second example, access by access.
func TestTwoNodes(t *testing.T) {
	r := newRound(t, api.Circuit{Sends: [][]int{{1}, {}}, Awake: []int{0}})
	pick := func(who, n int, want api.Node, cells ...uint64) {
		t.Helper()
		for range n {
			r.pick(who)
		}
		if r.nodes[who].Tell() != want || !slices.Equal(r.a.Image(), cells) {
			t.Errorf("T5: the node %d is %v, %v, want %v, %v", who, r.nodes[who].Tell(), r.a.Image(), want, cells)
		}
	}
	pick(0, 2, api.Node{Balance: 1, Active: true, Sent: 1}, 0, 0, 0, 1, 0, 1)
	pick(0, 8, api.Node{Balance: 1, Sent: 1}, 0, 1, 0, 0, 0, 1)
	pick(1, 3, api.Node{Balance: -1, Active: true, Black: true}, 0, 1, 0, 0, 0, 0)
	pick(1, 1, api.Node{Balance: -1, Black: true}, 0, 1, 0, 0, 0, 0)
	pick(1, 7, api.Node{Balance: -1}, 0, 0, never, 1, 0, 0)
	pick(0, 8, api.Node{Balance: 1, Sent: 1}, 0, 1, 0, 0, 0, 0)
	pick(1, 8, api.Node{Balance: -1}, 0, 0, never, 0, 0, 0)
	pick(0, 6, api.Node{Balance: 1, Sent: 1, Over: true}, 1, 0, never, 0, 0, 0)
	pick(1, 1, api.Node{Balance: -1, Over: true}, 1, 0, never, 0, 0, 0)
	want := []short{
		{0, load, 0, 0}, {0, add, 5, 1}, {0, load, 0, 0}, {0, load, 4, 0}, {0, load, 1, 0}, {0, load, 2, 0}, {0, load, 3, 1}, {0, store, 2, 0}, {0, store, 3, 0}, {0, store, 1, 1},
		{1, load, 0, 0}, {1, load, 5, 1}, {1, cas, 5, 0}, {1, load, 0, 0}, {1, load, 5, 0}, {1, load, 1, 1}, {1, load, 2, 0}, {1, load, 3, 0}, {1, store, 2, never}, {1, store, 3, 1}, {1, store, 1, 0},
		{0, load, 0, 0}, {0, load, 4, 0}, {0, load, 1, 0}, {0, load, 2, never}, {0, load, 3, 1}, {0, store, 2, 0}, {0, store, 3, 0}, {0, store, 1, 1},
		{1, load, 0, 0}, {1, load, 5, 0}, {1, load, 1, 1}, {1, load, 2, 0}, {1, load, 3, 0}, {1, store, 2, never}, {1, store, 3, 0}, {1, store, 1, 0},
		{0, load, 0, 0}, {0, load, 4, 0}, {0, load, 1, 0}, {0, load, 2, never}, {0, load, 3, 0}, {0, store, 0, 1},
		{1, load, 0, 1},
	}
	if got := shorts(r.a.Log()); !slices.Equal(got, want) {
		t.Errorf("T5: %v, want %v", got, want)
	}
	r.ended()
}

func TestCells(t *testing.T) {
	for n := 1; n <= api.MaxNodes; n++ {
		want := make([]uint64, 4+n)
		want[3] = 1
		if cells, e := token.Cells(api.Circuit{Sends: make([][]int, n)}); !slices.Equal(cells, want) || e != api.OK {
			t.Errorf("T3: %d nodes: %v, %d", n, cells, e)
		}
	}
}

func TestNew(t *testing.T) {
	c := api.Circuit{Sends: [][]int{{1, 1}, {0}, nil}, Awake: []int{2, 0, 0}}
	for who, want := range []api.Node{{Active: true}, {}, {Active: true}} {
		if n, e := token.New(c, who); e != api.OK || n.Tell() != want || n.Over() {
			t.Errorf("T4: the node %d is %v, %d, want %v", who, n.Tell(), e, want)
		}
	}
	for _, who := range []int{-1, 3, math.MinInt, math.MaxInt} {
		if n, e := token.New(c, who); n != nil || e != api.ErrVertex {
			t.Errorf("T4: New(%d): %d", who, e)
		}
	}
}

// TestRefusals: T2, of several errors the first one; and the same ahead of all others in Cells and New.
func TestRefusals(t *testing.T) {
	many := make([][]int, api.MaxNodes+1)
	long := make([]int, api.MaxSends+1)
	late := slices.Clone(long)
	late[api.MaxSends] = 1
	for i, x := range []struct {
		c api.Circuit
		e api.Errno
	}{
		{api.Circuit{}, api.ErrSize},
		{api.Circuit{Sends: [][]int{}, Awake: []int{0}, Burst: -1}, api.ErrSize},
		{api.Circuit{Sends: many}, api.ErrSize},
		{api.Circuit{Sends: append([][]int{{-1}}, many...), Awake: []int{-1}, Burst: -1}, api.ErrSize},
		{api.Circuit{Sends: many[:api.MaxNodes]}, api.OK},
		{api.Circuit{Sends: [][]int{{1}}}, api.ErrVertex},
		{api.Circuit{Sends: [][]int{{0}, {0, 2}}}, api.ErrVertex},
		{api.Circuit{Sends: [][]int{{-1}}, Burst: -1}, api.ErrVertex},
		{api.Circuit{Sends: [][]int{{math.MinInt, math.MaxInt}}}, api.ErrVertex},
		{api.Circuit{Sends: [][]int{late}}, api.ErrVertex},
		{api.Circuit{Sends: [][]int{long, {2}}}, api.ErrVertex},
		{api.Circuit{Sends: [][]int{long}, Awake: []int{7}, Burst: -1}, api.ErrSize},
		{api.Circuit{Sends: [][]int{long[2:], {0, 1}}, Awake: []int{7}}, api.ErrSize},
		{api.Circuit{Sends: [][]int{long[2:], {1}}}, api.OK},
		{api.Circuit{Sends: [][]int{long[1:]}}, api.OK},
		{api.Circuit{Sends: [][]int{nil}, Awake: []int{1}, Burst: -1}, api.ErrVertex},
		{api.Circuit{Sends: [][]int{nil}, Awake: []int{0, 0, -1}}, api.ErrVertex},
		{api.Circuit{Sends: [][]int{nil}, Awake: make([]int, 3*api.MaxSends)}, api.OK},
		{api.Circuit{Sends: [][]int{nil}, Burst: -1}, api.ErrShape},
		{api.Circuit{Sends: [][]int{nil}, Burst: math.MinInt}, api.ErrShape},
		{api.Circuit{Sends: [][]int{{0}}, Burst: math.MaxInt}, api.OK},
		{api.Circuit{Sends: [][]int{{0, 0}}, Awake: []int{0}}, api.OK},
	} {
		if e := token.Check(x.c); e != x.e {
			t.Errorf("T2: case %d: %d, want %d", i, e, x.e)
		}
		if cells, e := token.Cells(x.c); e != x.e || (cells == nil) != (e != api.OK) {
			t.Errorf("T3: case %d: %v, %d, want %d", i, cells, e, x.e)
		}
		if n, e := token.New(x.c, 0); e != x.e || (n == nil) != (e != api.OK) {
			t.Errorf("T4: case %d: %d, want %d", i, e, x.e)
		}
		if n, e := token.New(x.c, -1); n != nil || x.e != api.OK && e != x.e || x.e == api.OK && e != api.ErrVertex {
			t.Errorf("T4: case %d: the circuit ahead of the node: %d", i, e)
		}
	}
}

// TestByChance: T5 to T10 of many circuits: picks by chance, each of its own kind, and then in turns.
func TestByChance(t *testing.T) {
	dice := rand.New(rand.NewPCG(24, 1))
	for i := range 600 {
		r := newRound(t, someCircuit(dice))
		n := len(r.nodes)
		held := dice.IntN(n) // in every third run one node is kept from going for a while
		for range dice.IntN(300) {
			who := dice.IntN(n)
			for range 1 + dice.IntN(1+i%12) {
				if i%3 > 0 || who != held {
					r.pick(who)
				}
			}
		}
		r.finish()
	}
}

// TestGreatBurst: T5: a Burst that is as great as an int can be, over and over.
func TestGreatBurst(t *testing.T) {
	for _, burst := range []int{math.MaxInt, math.MaxInt - 1, math.MaxInt/2 + 1} {
		c := api.Circuit{Sends: [][]int{{1, 1, 1, 0, 0, 2}, {2, 2, 2, 1, 0, 1, 1}, {0, 0, 0, 2, 2}}, Awake: []int{0}, Burst: burst}
		r := newRound(t, c)
		r.finish()
		for who, n := range r.nodes {
			if n.Tell().Sent != len(c.Sends[who]) {
				t.Errorf("T5: Burst %d: the node %d has sent %d", burst, who, n.Tell().Sent)
			}
		}
	}
}

// TestBurstIsCounted: T5: for each message that it takes, a node that was not awake sends Burst more.
func TestBurstIsCounted(t *testing.T) {
	for burst := range 5 {
		r := newRound(t, api.Circuit{Sends: [][]int{{1, 1, 1}, slices.Repeat([]int{2}, 10), nil}, Awake: []int{0}, Burst: burst})
		r.finish()
		if sent := r.nodes[1].Tell().Sent; sent != min(3*burst, 10) {
			t.Errorf("T5: Burst %d: %d messages were sent", burst, sent)
		}
	}
}

// TestManyNodes: T9: as many nodes and sends as may be.
func TestManyNodes(t *testing.T) {
	c := api.Circuit{Burst: 2}
	for i := range api.MaxNodes {
		c.Awake = append(c.Awake, i)
		row := make([]int, api.MaxSends/api.MaxNodes)
		for j := range row {
			row[j] = (i + j*j) % api.MaxNodes
		}
		c.Sends = append(c.Sends, row)
	}
	ended(t, c, func(l *loom.Loom) { l.Finish(1 << 22) })
	one := api.Circuit{Sends: [][]int{make([]int, api.MaxSends), nil}, Awake: []int{0}}
	ended(t, one, func(l *loom.Loom) { l.Finish(1 << 22) })
	quiet := api.Circuit{Sends: make([][]int, api.MaxNodes)}
	ended(t, quiet, func(l *loom.Loom) { l.Finish(1 << 22) })
}

// ended plays a circuit without looking at each pick, and looks at its end.
func ended(t *testing.T, c api.Circuit, play func(l *loom.Loom)) {
	t.Helper()
	r := newRound(t, c)
	play(r.l)
	r.ended()
}

// TestGoroutines: T7, T9 of nodes that go all at once.
func TestGoroutines(t *testing.T) {
	dice := rand.New(rand.NewPCG(24, 2))
	for range 100 {
		c := someCircuit(dice)
		r := newRound(t, c)
		var machines []loom.Machine
		for _, n := range r.nodes {
			machines = append(machines, n)
		}
		if e := loom.Live(r.a, machines); e != api.OK {
			t.Fatalf("T9: %v: %d", c, e)
		}
		r.ended()
		behind := false
		for _, x := range r.a.Log() {
			if behind && x.Kind != api.AccLoad && x.Left != x.Seen {
				t.Fatalf("T7: %v: %v behind done", c, x)
			}
			behind = behind || x.Kind == api.AccStore && x.Cell == 0
		}
	}
}

// TestOverMakesNoAccess: T6.
func TestOverMakesNoAccess(t *testing.T) {
	r := newRound(t, api.Circuit{Sends: [][]int{{1, 0}, {0}}, Awake: []int{0, 1}})
	r.finish()
	count, cells := r.a.Count(), r.a.Image()
	p, _ := r.a.Port(0)
	for _, n := range r.nodes {
		was := n.Tell()
		p.Grant()
		n.Step(p)
		n.Step(nil)
		if !p.Granted() || r.a.Count() != count || !slices.Equal(r.a.Image(), cells) || n.Tell() != was || !n.Over() {
			t.Errorf("T6: a step of what is over: %v, %v", n.Tell(), r.a.Image())
		}
	}
}

// goesOnWithNothing steps a node whose accesses are not made, and holds it against its teller, which sees 0 and false.
func goesOnWithNothing(t *testing.T, n *token.Node, told *teller, p *arena.Port) {
	t.Helper()
	for range 100 {
		if n.Over() != (told.at == 0) || n.Tell() != told.tell() {
			t.Fatalf("T6: %v, want %v", n.Tell(), told.tell())
		}
		n.Step(p)
		if told.at != 0 {
			told.goOn(0, false)
		}
	}
}

// TestAccessesThatAreNotMade: T6: over an arena that is stopped, without a grant, by a port that leads nowhere, over one that is too small.
func TestAccessesThatAreNotMade(t *testing.T) {
	dice := rand.New(rand.NewPCG(24, 3))
	for i := range 400 {
		r := newRound(t, someCircuit(dice))
		for range dice.IntN(60) {
			r.pick(dice.IntN(len(r.nodes)))
		}
		cells, count := r.a.Image(), r.a.Count()
		for who, n := range r.nodes {
			p, _ := r.a.Port(who)
			switch i % 4 {
			case 0:
				r.a.Stop(api.Fault{Kind: api.FaultNone})
				p.Grant()
			case 1: // the first access stops the arena
			case 2:
				p = nil
			case 3:
				small, _ := arena.New(0, true)
				p, _ = small.Port(who)
				p.Grant()
			}
			goesOnWithNothing(t, n, r.tellers[who], p)
		}
		if !slices.Equal(r.a.Image(), cells) || r.a.Count() != count {
			t.Fatalf("T6: accesses were made: %v", r.a.Image())
		}
	}
}

// TestAnyCells: T5: over cells that hold anything, a node makes the accesses that are told.
func TestAnyCells(t *testing.T) {
	dice := rand.New(rand.NewPCG(24, 4))
	for range 500 {
		c := someCircuit(dice)
		who := dice.IntN(len(c.Sends))
		n, _ := token.New(c, who)
		told := newTeller(c, who)
		a, _ := arena.New(4+len(c.Sends), true)
		p, _ := a.Port(who)
		for range 200 {
			if told.at == 0 {
				break
			}
			cell := dice.IntN(a.Len())
			words := []uint64{0, 0, 1, 2, uint64(dice.IntN(8)), never, -uint64(dice.IntN(8))}
			if cell > 0 || dice.IntN(20) == 0 {
				a.Poke(cell, words[dice.IntN(len(words))])
			}
			want := told.next()
			p.Grant()
			n.Step(p)
			made := lastOf(a)
			if made.Kind != want.Kind || made.Cell != want.Cell || made.Want != want.Want || made.Put != want.Put {
				t.Fatalf("T5: %v: the node %d makes %v, want %v", c, who, made, want)
			}
			told.goOn(made.Seen, made.Ok)
			if n.Tell() != told.tell() {
				t.Fatalf("T6: %v: the node %d is %v, want %v", c, who, n.Tell(), told.tell())
			}
		}
	}
}

// TestNobody: T1: methods of what no New has made do not break.
func TestNobody(t *testing.T) {
	var none *token.Node
	for _, n := range []*token.Node{none, new(token.Node)} {
		n.Step(nil)
		if !n.Over() || n.Tell() != (api.Node{Over: true}) {
			t.Errorf("T1: %v", n.Tell())
		}
	}
}
