package crew_test

import (
	"math/rand"
	"runtime"
	"slices"
	"testing"
	"time"

	"wayfare/api"
	"wayfare/crew"
	"wayfare/route"
)

// greatGraph has many ways, most of which are found to be too long.
func greatGraph(r *rand.Rand, n int) api.Graph {
	var edges []api.Edge
	for v := range n {
		edges = append(edges, edge(v, (v+1)%n, uint64(1+r.Intn(3))))
		for range 3 {
			edges = append(edges, edge(v, r.Intn(n), uint64(r.Intn(200))))
		}
	}
	return build(n, edges...)
}

// TestLiveIsSerial: whatever pool and kind, and however many workers.
func TestLiveIsSerial(t *testing.T) {
	r := rand.New(rand.NewSource(25))
	g := greatGraph(r, 80)
	for _, pool := range pools {
		for _, kind := range kinds {
			for _, workers := range []int{1, 2, 8, api.MaxWorkers} {
				p := planOf(pool, workers)
				p.Kind, p.Cap, p.Slots, p.Width, p.Seed = kind, 1<<12, 16, 8, r.Uint64() // more room than tasks are ever born
				p.Starts, _ = route.Starts(g, kind, 3)
				want, _ := route.Search(g, kind, p.Starts)
				if o, l, e := crew.Live(g, p); o != api.RunDone || e != api.OK || !slices.Equal(l, want) {
					t.Errorf("K9, K10: the pool %d, the kind %d, %d workers: Live = %d, %d, %v, want %v", pool, kind, workers, o, e, l, want)
				}
			}
		}
	}
}

// TestLiveOfLittleRoom: it fails, or it is done with the least labels.
func TestLiveOfLittleRoom(t *testing.T) {
	r := rand.New(rand.NewSource(26))
	for _, pool := range pools {
		for range 60 {
			g := graphByChance(r)
			p := planByChance(t, r, g, pool, false)
			o, l, e := crew.Live(g, p)
			want, _ := route.Search(g, p.Kind, p.Starts)
			if e != api.OK || o != api.RunDone && o != api.RunFailed || o == api.RunDone && !slices.Equal(l, want) || o == api.RunFailed && l != nil {
				t.Errorf("K9: the pool %d: Live = %d, %v, %d, want %v", pool, o, l, e, want)
			}
		}
	}
}

// TestLiveOfOne: there is one order of one worker's steps, so it comes to what a played run comes to.
func TestLiveOfOne(t *testing.T) {
	r := rand.New(rand.NewSource(27))
	for _, pool := range pools {
		var ends [3]int
		for i := range 60 {
			g := graphByChance(r)
			p := planByChance(t, r, g, pool, i%2 == 0)
			if p.Workers = 1; crew.Check(g, p) != api.OK { // the least room was that of more
				continue
			}
			c := newCrew(t, g, p)
			c.Finish()
			want, _ := c.Labels()
			for _, p.Keep = range []bool{false, true} {
				if o, l, e := crew.Live(g, p); o != c.Outcome() || e != api.OK || !slices.Equal(l, want) {
					t.Errorf("K9: the pool %d: Live = %d, %v, %d, want %d, %v", pool, o, l, e, c.Outcome(), want)
				}
			}
			ends[c.Outcome()]++
		}
		if ends[api.RunDone] == 0 || ends[api.RunFailed] == 0 {
			t.Errorf("the pool %d: %d runs are done, %d failed", pool, ends[api.RunDone], ends[api.RunFailed])
		}
	}
}

// TestLiveFails: with several workers, of which some are told of the fault, and some find it.
func TestLiveFails(t *testing.T) {
	for _, pool := range pools {
		p := planOf(pool, 1)
		p.Cap, p.Per, p.In, p.Out, p.Slots, p.Width = 2, 1, 0, 1, 1, 1
		for _, workers := range []int{1, 2, 8} {
			p.Workers = workers
			o, l, e := crew.Live(star(400), p)
			if e != api.OK || o == api.RunOpen || o == api.RunFailed && l != nil || workers == 1 && o != api.RunFailed {
				t.Errorf("K9: the pool %d, %d workers: Live = %d, %d labels, %d", pool, workers, o, len(l), e)
			}
		}
	}
}

// TestLiveLeavesNothing: all goroutines have ended, and the labels are the caller's.
func TestLiveLeavesNothing(t *testing.T) {
	p := planOf(api.PoolSteal, 16)
	ahead := runtime.NumGoroutine()
	var lists [][]uint64
	for range 50 {
		_, l, _ := crew.Live(small(), p)
		lists = append(lists, l)
	}
	for i := 0; runtime.NumGoroutine() > ahead && i < 100; i++ { // one that has told its end may not be gone yet
		time.Sleep(time.Millisecond)
	}
	if n := runtime.NumGoroutine(); n > ahead {
		t.Errorf("K9: %d goroutines are left", n-ahead)
	}
	for i, l := range lists {
		if !slices.Equal(l, []uint64{0, 3, 1}) {
			t.Errorf("P0.4: Live's labels %d: %v", i, l)
		}
		spoil(l, 9)
	}
}
