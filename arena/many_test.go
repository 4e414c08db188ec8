package arena_test

import (
	"slices"
	"sync"
	"testing"

	"wayfare/api"
	"wayfare/arena"
)

const (
	goroutines = 8
	rounds     = 2000
)

// TestManyGoroutines: every call from several goroutines at the same time, those of one port too.
func TestManyGoroutines(t *testing.T) {
	a := newArena(t, 3, true)
	var all sync.WaitGroup
	for i := range goroutines {
		p := newPort(t, a, i)
		all.Go(func() {
			for range rounds {
				p.Grant()
				p.Add(0, 1)
			}
		})
		all.Go(func() { ask(a, i) })
	}
	all.Wait()
	if v, _ := a.Peek(0); v != goroutines*rounds || a.Count() != goroutines*rounds {
		t.Errorf("A6: the cell is %d, Count %d", v, a.Count())
	}
	log := a.Log()
	for i, x := range log {
		if x.Seen != uint64(i) || x.Left != uint64(i)+1 {
			t.Fatalf("A6: the access %d is %v: not one behind the other", i, x)
		}
	}
	if at, end := arena.Replay(make([]uint64, 3), log); at != -1 || end[0] != goroutines*rounds {
		t.Errorf("A6: Replay = %d, %v", at, end)
	}
	if a.Stop(api.Fault{Who: 1}); !slices.Equal(a.Log(), log) {
		t.Error("A6: the log changed")
	}
}

// ask makes all calls that are no accesses, over cells that no access reaches.
func ask(a *arena.Arena, who int) {
	for i := range rounds / 10 {
		a.Peek(1)
		a.Poke(1, uint64(i))
		a.Image()
		a.Count()
		a.Len()
		a.Fault()
		if i%50 == 0 {
			a.Log()
		}
		p, _ := a.Port(who)
		p.Grant()
		p.Granted()
		p.Who()
	}
}

// TestOneGrantForMany: of many that use one port, one access passes a grant, the next one stops the arena.
func TestOneGrantForMany(t *testing.T) {
	for range 200 {
		a := newArena(t, 1, true)
		p := newPort(t, a, 3)
		p.Grant()
		var all sync.WaitGroup
		for range 4 {
			all.Go(func() { p.Add(0, 1) })
		}
		all.Wait()
		if v, _ := a.Peek(0); v != 1 || a.Count() != 1 || p.Granted() {
			t.Fatalf("A6: one grant let %d pass", a.Count())
		}
		wantFault(t, a, api.Fault{Who: 3, Kind: api.FaultTwice})
	}
}

// TestFirstStopStays: of many that stop an arena, one has done it, and all see the same.
func TestFirstStopStays(t *testing.T) {
	a := newArena(t, 1, true)
	seen := make([]api.Fault, goroutines)
	var all sync.WaitGroup
	for i := range goroutines {
		all.Go(func() {
			a.Stop(api.Fault{Who: i + 1})
			seen[i], _ = a.Fault()
		})
	}
	all.Wait()
	for _, f := range seen {
		if f != seen[0] || f.Who < 1 {
			t.Errorf("A6: stops %v", seen)
		}
	}
}
