package loom_test

import (
	"runtime"
	"slices"
	"strings"
	"sync/atomic"
	"testing"

	"wayfare/api"
	"wayfare/arena"
	"wayfare/loom"
)

func wantLive(t *testing.T, a *arena.Arena, want api.Errno, ms ...loom.Machine) {
	t.Helper()
	first := a.Image()
	if e := loom.Live(a, ms); e != want {
		t.Fatalf("L7: Live = %d, want %d", e, want)
	}
	if at, end := arena.Replay(first, a.Log()); at != -1 || !slices.Equal(end, a.Image()) {
		t.Errorf("L11: Replay = %d, %v, want -1, %v", at, end, a.Image())
	}
}

func TestLive(t *testing.T) {
	a := newArena(t, 2)
	ms := threads(t, strings.Repeat(lock, 6))
	wantLive(t, a, api.OK, ms...)
	wantCell(t, a, 1, 18)
	for i, m := range ms {
		if !m.Over() {
			t.Errorf("L7: the machine %d is not over", i)
		}
	}
}

// TestLiveKeepsOrders: each machine has made its own accesses, by its own port, in its own order.
func TestLiveKeepsOrders(t *testing.T) {
	const times = 300
	a := newArena(t, 1)
	var ms []loom.Machine
	for i := range 5 {
		next := uint64(i) << 32
		ms = append(ms, &machine{left: times, make: func(p *arena.Port) { p.Swap(0, next); next++ }})
	}
	wantLive(t, a, api.OK, ms...)
	next := make([]uint64, 5)
	for _, x := range a.Log() {
		if x.Put != uint64(x.Who)<<32+next[x.Who] {
			t.Fatalf("L11: the machine %d put %d as its %d. word", x.Who, x.Put, next[x.Who])
		}
		next[x.Who]++
	}
	if a.Count() != 5*times {
		t.Errorf("L7: %d accesses", a.Count())
	}
}

func TestLiveOfNothing(t *testing.T) {
	a := newArena(t, 1)
	wantLive(t, a, api.OK)
	m := adder(0)
	wantLive(t, a, api.OK, m)
	if a.Count() != 0 || len(m.who) != 0 {
		t.Error("L7: one that is over was stepped")
	}
}

func TestLiveIsStopped(t *testing.T) {
	for _, c := range []struct {
		make func(p *arena.Port)
		want api.Fault
	}{
		{func(p *arena.Port) {}, api.Fault{Who: 2, Kind: api.FaultNone}},
		{func(p *arena.Port) { p.Load(7) }, api.Fault{Who: 2, Kind: api.FaultCell, Cell: 7}},
		{func(p *arena.Port) { p.Load(0); p.Load(0) }, api.Fault{Who: 2, Kind: api.FaultTwice}},
	} {
		for _, left := range []int{1, 1 << 40} { // one that is over behind the stop, and one that is not
			a := newArena(t, 1)
			without := func(p *arena.Port) { p.Load(0) }
			wantLive(t, a, api.ErrCell, &machine{left: 1 << 40, make: without}, adder(1), &machine{left: left, make: c.make})
			wantFault(t, a, c.want)
		}
	}
}

// TestLiveOfAStoppedArena: nothing is done, also where all machines are over.
func TestLiveOfAStoppedArena(t *testing.T) {
	for _, left := range []int{0, 3} {
		a := newArena(t, 1)
		a.Stop(api.Fault{Who: 9})
		m := adder(left)
		wantLive(t, a, api.ErrCell, m)
		if m.left != left || a.Count() != 0 {
			t.Error("L7: a step over a stopped arena")
		}
		wantFault(t, a, api.Fault{Who: 9})
	}
	a := newArena(t, 1)
	a.Stop(api.Fault{})
	wantLive(t, a, api.ErrCell)
}

// TestLiveGoesAtTheSameTime: two machines that each wait for the other come to their ends.
func TestLiveGoesAtTheSameTime(t *testing.T) {
	a := newArena(t, 2)
	meet := "thread one 1\n store [0] r1\nx:\n load r2 [1]\n zero r2 x\nend\nthread two 1\ny:\n load r2 [0]\n zero r2 y\n store [1] r1\nend\n"
	wantLive(t, a, api.OK, threads(t, meet)...)
}

// TestLiveLeavesNobody: behind Live no goroutine is in a machine any more, and none makes an access.
func TestLiveLeavesNobody(t *testing.T) {
	for range 20 {
		a := newArena(t, 1)
		var within atomic.Int32
		slow := func(p *arena.Port) {
			within.Add(1)
			for range 200 {
				runtime.Gosched()
			}
			p.Add(0, 1)
			within.Add(-1)
		}
		var ms []loom.Machine
		for range 4 {
			ms = append(ms, &machine{left: 3, make: slow})
		}
		ms = append(ms, &machine{left: 1, make: func(p *arena.Port) { a.Stop(api.Fault{Kind: 9}) }})
		loom.Live(a, ms)
		if n := within.Load(); n != 0 {
			t.Fatalf("L7: %d machines still go", n)
		}
	}
}
