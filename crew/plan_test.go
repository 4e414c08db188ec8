package crew_test

import (
	"math"
	"runtime"
	"slices"
	"testing"

	"wayfare/api"
	"wayfare/crew"
	"wayfare/route"
)

// wantErrno: all three calls look at graph and plan alike.
func wantErrno(t *testing.T, name string, g api.Graph, p api.Plan, want api.Errno) {
	t.Helper()
	if e := crew.Check(g, p); e != want {
		t.Errorf("K2: %s: Check = %d, want %d", name, e, want)
	}
	if c, e := crew.New(g, p); e != want || (c == nil) != (want != api.OK) {
		t.Errorf("K3: %s: New = %v, %d, want %d", name, c != nil, e, want)
	}
	o, l, e := crew.Live(g, p)
	if e != want || want != api.OK && (o != 0 || l != nil) || want == api.OK && o == api.RunOpen {
		t.Errorf("K9: %s: Live = %d, %v, %d, want %d", name, o, l, e, want)
	}
}

// faults are what may be wrong, in the order of K2: each behind the one ahead.
var faults = []struct {
	name  string
	spoil func(g *api.Graph, p *api.Plan)
	want  api.Errno
}{
	{"no graph", func(g *api.Graph, p *api.Plan) { g.To[0] = 3 }, api.ErrVertex},
	{"no kind", func(g *api.Graph, p *api.Plan) { p.Kind = 5 }, api.ErrKind},
	{"no vertex", func(g *api.Graph, p *api.Plan) { p.Starts = append(slices.Clone(p.Starts), start(3, 0)) }, api.ErrVertex},
	{"no label", func(g *api.Graph, p *api.Plan) { p.Starts = append(slices.Clone(p.Starts), start(0, api.MaxLabel+1)) }, api.ErrLabel},
	{"no worker", func(g *api.Graph, p *api.Plan) { p.Workers = 0 }, api.ErrShape},
	{"no room", func(g *api.Graph, p *api.Plan) {
		p.Starts = append(slices.Clone(p.Starts), start(0, 4), start(1, 4), start(2, 4))
		p.Cap, p.Slots = 2, 1
		if p.Pool == api.PoolSteal || p.Pool == api.PoolMulti {
			p.Cap, p.Per = 1, 1
		}
	}, api.ErrFull},
}

func TestErrorsInTheirOrder(t *testing.T) {
	for _, pool := range pools {
		for first := range faults {
			for second := first; second < len(faults); second++ {
				if first > 1 && second == 3 || first == 2 && second == 5 {
					continue // several Starts: by their own order
				}
				g, p := small(), planOf(pool, 2)
				faults[second].spoil(&g, &p)
				if second != first {
					faults[first].spoil(&g, &p)
				}
				if pool == api.PoolSteal && first == 4 { // of no worker nothing is left to be full
					p.Workers = -1
				}
				wantErrno(t, faults[first].name+" ahead of "+faults[second].name, g, p, faults[first].want)
			}
		}
	}
}

func TestStartsInTheirOrder(t *testing.T) {
	const far = api.MaxLabel + 1
	for _, pool := range pools {
		for _, c := range []struct {
			name   string
			starts []api.Start
			want   api.Errno
		}{
			{"a far vertex with a far label", []api.Start{start(3, far)}, api.ErrVertex},
			{"a far label first", []api.Start{start(0, 0), start(0, far), start(3, 0)}, api.ErrLabel},
			{"a far vertex first", []api.Start{start(0, 0), start(3, 0), start(0, far)}, api.ErrVertex},
			{"below 0", []api.Start{start(-1, 0)}, api.ErrVertex},
			{"far below 0", []api.Start{start(math.MinInt, 0)}, api.ErrVertex},
			{"far above", []api.Start{start(math.MaxInt, 0)}, api.ErrVertex},
			{"Never", []api.Start{start(0, never)}, api.ErrLabel},
			{"the greatest", []api.Start{start(0, api.MaxLabel), start(2, 0)}, api.OK},
			{"the same again", []api.Start{start(0, 3), start(0, 3), start(0, 2), start(0, 9)}, api.OK},
			{"none", []api.Start{}, api.OK},
		} {
			p := planOf(pool, 2)
			p.Starts = c.starts
			wantErrno(t, c.name, small(), p, c.want)
		}
	}
}

func TestGraphsErrorsFirst(t *testing.T) {
	for name, c := range map[string]struct {
		g    api.Graph
		want api.Errno
	}{
		"too many":   {api.Graph{N: api.MaxVertices + 1}, api.ErrSize},
		"below none": {api.Graph{N: math.MinInt, Start: []int{0}}, api.ErrSize},
		"zero":       {api.Graph{}, api.ErrRows},
		"no rows":    {api.Graph{N: api.MaxVertices}, api.ErrRows},
		"falls":      {api.Graph{N: 2, Start: []int{0, 2, 1}, To: []int{0}, Weight: []uint64{0}}, api.ErrRows},
		"heavy":      {api.Graph{N: 1, Start: []int{0, 1}, To: []int{0}, Weight: []uint64{api.MaxWeight + 1}}, api.ErrWeight},
	} {
		wantErrno(t, name, c.g, api.Plan{Kind: 9, Starts: []api.Start{start(-9, never)}, Workers: -1, Pool: 9}, c.want)
	}
	for _, kind := range []int{0, 5, -1, math.MaxInt, math.MinInt} {
		p := planOf(api.PoolRing, 0)
		p.Kind = kind
		wantErrno(t, "a kind", small(), p, api.ErrKind)
	}
}

func TestShapes(t *testing.T) {
	for _, c := range []struct {
		name  string
		pools []int
		set   func(p *api.Plan, n int)
		right []int
		wrong []int
	}{
		{"Workers", pools, func(p *api.Plan, n int) { p.Workers = n }, []int{1, 2, 64}, []int{0, -1, 65, 1 << 40, math.MaxInt, math.MinInt}},
		{"Pool", []int{0}, func(p *api.Plan, n int) { p.Pool = n }, []int{1, 2, 3, 4}, []int{0, 5, -1, math.MaxInt, math.MinInt}},
		{"Cap", []int{api.PoolMulti, api.PoolSteal, api.PoolBucket}, func(p *api.Plan, n int) { p.Cap = n }, []int{1, 2, api.MaxCap}, []int{0, -1, api.MaxCap + 1, math.MaxInt, math.MinInt}},
		{"Cap", []int{api.PoolRing}, func(p *api.Plan, n int) { p.Cap = n }, []int{2, 3, api.MaxCap}, []int{1, 0, -1, api.MaxCap + 1, math.MaxInt, math.MinInt}},
		{"Per", []int{api.PoolMulti}, func(p *api.Plan, n int) { p.Per = n }, []int{1, 16}, []int{0, 17, math.MaxInt, math.MinInt}},
		{"Arity", []int{api.PoolMulti}, func(p *api.Plan, n int) { p.Arity = n }, []int{2, 16}, []int{1, 17, math.MaxInt, math.MinInt}},
		{"In", []int{api.PoolMulti}, func(p *api.Plan, n int) { p.In = n }, []int{0, 64}, []int{-1, 65, math.MaxInt, math.MinInt}},
		{"Out", []int{api.PoolMulti}, func(p *api.Plan, n int) { p.Out = n }, []int{1, 64}, []int{0, 65, math.MaxInt, math.MinInt}},
		{"Stick", []int{api.PoolMulti}, func(p *api.Plan, n int) { p.Stick = n }, []int{1, 64}, []int{0, 65, math.MaxInt, math.MinInt}},
		{"Tries", []int{api.PoolMulti, api.PoolSteal}, func(p *api.Plan, n int) { p.Tries = n }, []int{1, 64}, []int{0, 65, math.MaxInt, math.MinInt}},
		{"Slots", []int{api.PoolBucket}, func(p *api.Plan, n int) { p.Slots = n }, []int{1, 1024}, []int{0, 1025, math.MaxInt, math.MinInt}},
		{"Width", []int{api.PoolBucket}, func(p *api.Plan, n int) { p.Width = uint64(n) }, []int{1, -1}, []int{0}},
	} {
		for _, pool := range c.pools {
			for _, n := range c.right {
				p := planOf(pool, 2)
				c.set(&p, n)
				if e := crew.Check(small(), p); e != api.OK {
					t.Errorf("K2: %s of %d in the pool %d: %d", c.name, n, pool, e)
				}
			}
			for _, n := range c.wrong {
				p := planOf(pool, 2)
				c.set(&p, n)
				wantErrno(t, c.name, small(), p, api.ErrShape)
			}
		}
	}
}

// TestWhatThePoolHasNoUseFor is not looked at.
func TestWhatThePoolHasNoUseFor(t *testing.T) {
	for _, p := range []api.Plan{
		{Pool: api.PoolMulti, Per: 1, Cap: 8, Arity: 2, Out: 1, Stick: 1, Tries: 1, Slots: -1},
		{Pool: api.PoolRing, Cap: 8, Per: -1, Arity: -1, In: -1, Out: -1, Stick: -1, Tries: -1, Slots: -1},
		{Pool: api.PoolSteal, Cap: 8, Tries: 1, Per: -1, Arity: -1, In: -1, Out: -1, Stick: -1, Slots: -1},
		{Pool: api.PoolBucket, Cap: 8, Slots: 1, Width: 1, Per: -1, Arity: -1, In: -1, Out: -1, Stick: -1, Tries: -1},
	} {
		p.Kind, p.Workers, p.Starts = api.KindSum, 2, []api.Start{start(0, 0)}
		wantErrno(t, "what it has no use for", small(), p, api.OK)
		c := newCrew(t, small(), p)
		c.Finish()
		wantLabels(t, c, 0, 3, 1)
	}
}

// TestCellsOfAll: all cells together may be just as many as there may be.
func TestCellsOfAll(t *testing.T) {
	for _, c := range []struct {
		pool, vertices int
		set            func(p *api.Plan)
	}{
		// 3 + N + 64 * 2 * (3 + 2 * 65000)
		{api.PoolMulti, api.MaxCells - 3 - 128*130003, func(p *api.Plan) { p.Per, p.Cap = 2, 65000 }},
		// 3 + N + 1024 * (2 + 2 * 8000)
		{api.PoolBucket, api.MaxCells - 3 - 1024*16002, func(p *api.Plan) { p.Slots, p.Cap = 1024, 8000 }},
	} {
		p := planOf(c.pool, 64)
		c.set(&p)
		if e := crew.Check(build(c.vertices), p); e != api.OK {
			t.Errorf("K2: the pool %d: just MaxCells: %d", c.pool, e)
		}
		if e := crew.Check(build(c.vertices+1), p); e != api.ErrShape {
			t.Errorf("K2: the pool %d: one cell too many: %d", c.pool, e)
		}
		p.Starts = []api.Start{start(0, never)}
		if e := crew.Check(build(c.vertices+1), p); e != api.ErrLabel {
			t.Errorf("K2: the pool %d: one cell too many, behind a start: %d", c.pool, e)
		}
		runtime.GC()
	}
}

// TestLayout: the pool's cells stand behind the labels; all cells are those that the plan asks for, and no more.
func TestLayout(t *testing.T) {
	for pool, cells := range map[int]int{
		api.PoolMulti: 3 * 2 * (3 + 2*64), api.PoolRing: 2 + 3*64, api.PoolSteal: 3 * (2 + 2*64), api.PoolBucket: 3 * (2 + 2*64),
	} {
		p := planOf(pool, 3)
		p.Starts = []api.Start{start(2, 4), start(1, 7), start(2, 3), start(1, 8), start(2, 9)}
		c := newCrew(t, small(), p)
		first := c.First()
		if len(first) != 3+3+cells {
			t.Errorf("the pool %d has %d cells, want %d", pool, len(first)-6, cells)
		}
		if !slices.Equal(first[:6], []uint64{2, 0, 0, never, 7, 3}) {
			t.Errorf("the cells at the start: %v", first[:6])
		}
		wantView(t, c, api.View{
			Born: []api.Task{pair(3, 2), pair(7, 1)}, Held: []api.Task{pair(3, 2), pair(7, 1)}, Pend: 2,
			Phase: slices.Repeat([]int{api.PhAsk}, 3),
		})
	}
	// by rising vertex, not by rising label: the ring tells in which order they were filled in
	p := planOf(api.PoolRing, 1)
	p.Starts = []api.Start{start(2, 1), start(0, 9), start(1, 5)}
	if ring := newCrew(t, small(), p).First()[6:]; !slices.Equal(ring[:11], []uint64{3, 0, 1, 9, 0, 2, 5, 1, 3, 1, 2}) {
		t.Errorf("the ring at the start: %v", ring[:11])
	}
}

// TestGraphsOfLittle: no vertices, no edges, an edge from a vertex to itself, several edges alike.
func TestGraphsOfLittle(t *testing.T) {
	for _, pool := range pools {
		for _, kind := range kinds {
			for _, c := range []struct {
				g      api.Graph
				starts []api.Start
				want   []uint64
			}{
				{build(0), nil, nil},
				{build(2), nil, []uint64{never, never}},
				{build(2), []api.Start{start(1, 5)}, []uint64{never, 5}},
				{build(1, edge(0, 0, 0)), []api.Start{start(0, api.MaxLabel)}, []uint64{api.MaxLabel}},
				{build(2, edge(0, 1, 0), edge(0, 1, 0)), []api.Start{start(0, 0), start(1, 9)}, []uint64{0, map[int]uint64{api.KindHops: 1}[kind]}},
			} {
				p := planOf(pool, 2)
				p.Kind, p.Starts = kind, c.starts
				r := newCrew(t, c.g, p)
				r.Finish()
				wantLabels(t, r, c.want...)
				if o, l, e := crew.Live(c.g, p); o != api.RunDone || !slices.Equal(l, c.want) || e != api.OK {
					t.Errorf("K9: %d, %v, %d, want %v", o, l, e, c.want)
				}
			}
		}
	}
}

// TestGreatLabels: from the greatest start on, along the heaviest edges.
func TestGreatLabels(t *testing.T) {
	g := build(3, edge(0, 1, api.MaxWeight), edge(1, 2, api.MaxWeight), edge(2, 0, api.MaxWeight))
	for _, pool := range pools {
		for _, kind := range kinds {
			p := planOf(pool, 2)
			p.Kind, p.Starts, p.Width = kind, []api.Start{start(0, api.MaxLabel)}, never
			c := newCrew(t, g, p)
			c.Finish()
			want, _ := route.Search(g, kind, p.Starts)
			wantLabels(t, c, want...)
			if kind == api.KindSum && want[2] != api.MaxLabel+2*api.MaxWeight {
				t.Errorf("K10: the greatest label is %d", want[2])
			}
		}
	}
}

// TestWords: a worker draws its own row first; rows that are not there, and empty ones, are none; rows from Workers on play no part.
func TestWords(t *testing.T) {
	g := build(5, edge(0, 1, 5), edge(0, 2, 1), edge(2, 1, 2), edge(1, 3, 4), edge(2, 4, 9))
	logOf := func(pool int, words [][]uint64) []api.Access {
		p := planOf(pool, 3)
		p.Words = words
		c := newCrew(t, g, p)
		c.Finish()
		return c.Log()
	}
	for _, pool := range []int{api.PoolMulti, api.PoolSteal} {
		none := logOf(pool, nil)
		for i, words := range [][][]uint64{{}, {nil}, {{}, {}, {}, {}}, {nil, nil, nil, {1 << 63, 5}, nil, {7}}} {
			if !slices.Equal(logOf(pool, words), none) {
				t.Errorf("the pool %d, words %d: they are drawn", pool, i)
			}
		}
		for who := range 3 {
			words := make([][]uint64, who+1)
			words[who] = slices.Repeat([]uint64{never, 0}, 20)
			if slices.Equal(logOf(pool, words), none) {
				t.Errorf("the pool %d: the words of the worker %d are not drawn", pool, who)
			}
		}
		p := planOf(pool, 3)
		p.Seed++
		c := newCrew(t, g, p)
		if c.Finish(); slices.Equal(c.Log(), none) {
			t.Errorf("the pool %d: the seed is not drawn from", pool)
		}
	}
}

// TestNoListsBeyondTheLimits: what is refused makes none.
func TestNoListsBeyondTheLimits(t *testing.T) {
	g := small()
	var plans []api.Plan
	for _, pool := range append(slices.Clone(pools), 0, 9) {
		for _, set := range []func(p *api.Plan){
			func(p *api.Plan) { p.Cap = 1 << 40 },
			func(p *api.Plan) { p.Workers = 1 << 40 },
			func(p *api.Plan) { p.Workers, p.Per, p.Slots, p.Cap = 64, 16, 1024, 1<<17 },
			func(p *api.Plan) { p.Workers, p.Kind = 64, 0 },
			func(p *api.Plan) { p.Workers, p.Starts = -1, slices.Repeat([]api.Start{start(0, never)}, 8) },
		} {
			p := planOf(pool, 2)
			set(&p)
			plans = append(plans, p)
		}
	}
	var ahead, behind runtime.MemStats
	runtime.ReadMemStats(&ahead)
	for _, p := range plans {
		if crew.Check(g, p) == api.OK {
			t.Error("K2: a plan above the limits")
		}
		crew.New(g, p)
		crew.Live(g, p)
	}
	crew.Check(api.Graph{N: 1 << 40}, plans[0])
	runtime.ReadMemStats(&behind)
	if n := behind.TotalAlloc - ahead.TotalAlloc; n > 1<<17 {
		t.Errorf("P0.9: %d bytes are taken", n)
	}
}
