package crew_test

import (
	"math/rand"
	"slices"
	"testing"

	"wayfare/api"
	"wayfare/arena"
	"wayfare/crew"
	"wayfare/route"
)

// watch looks at a run behind every pick, by what the chapter promises.
type watch struct {
	t      *testing.T
	g      api.Graph
	p      api.Plan
	c      *crew.Crew
	before api.View
	labels []uint64
	moved  int
	full   bool // an operation of the pool was StFull

	noted, at int   // how many events were looked at, and the last one's At
	open      []int // by worker: the kind of the event whose end has not come
}

func newWatch(t *testing.T, g api.Graph, p api.Plan) *watch {
	t.Helper()
	return watchOf(t, g, p, newCrew(t, g, p))
}

// watchOf begins to look at a run that may have gone on already.
func watchOf(t *testing.T, g api.Graph, p api.Plan, c *crew.Crew) *watch {
	t.Helper()
	w := &watch{t: t, g: g, p: p, c: c, before: c.View(), moved: len(c.Log()), open: make([]int, p.Workers)}
	w.labels = w.labelsNow()
	w.balance(w.before)
	w.events()
	return w
}

func (w *watch) labelsNow() []uint64 { return w.c.Cells()[3 : 3+w.g.N] }

// pick makes one, and looks.
func (w *watch) pick(n int) {
	w.t.Helper()
	turn := w.c.Pick(n)
	log := w.c.Log()
	if turn.Moved {
		w.moved++
	}
	if len(log) != w.moved || turn.Moved == (w.before.Phase[turn.Who] == api.PhOver) {
		w.t.Fatalf("K4: %v with the phase %d ahead, and %d accesses by %d steps", turn, w.before.Phase[turn.Who], len(log), w.moved)
	}
	v := w.c.View()
	if !turn.Moved && !sameView(v, w.before) {
		w.t.Fatal("K4: a pick of one that is over does something")
	}
	w.balance(v)
	w.phases(turn, v)
	w.events()
	w.ends(turn, v)
	w.steady(v)
	w.before, w.labels = v, w.labelsNow()
}

// balance is K11 (P0.11).
func (w *watch) balance(v api.View) {
	w.t.Helper()
	if both := sortedTasks(append(slices.Clone(v.Ended), v.Held...)); !slices.Equal(both, v.Born) {
		w.t.Fatalf("K11: born %v, ended and held %v", v.Born, both)
	}
	if len(slices.Compact(slices.Clone(v.Born))) != len(v.Born) {
		w.t.Fatalf("K11: two alike: %v", v.Born)
	}
	for _, l := range [][]api.Task{v.Born, v.Ended, v.Held} {
		if !slices.Equal(l, sortedTasks(l)) {
			w.t.Fatalf("K6: not sorted: %v", l)
		}
	}
	raising := 0
	for _, phase := range v.Phase {
		if phase == api.PhRaise {
			raising++
		}
	}
	if v.Pend != uint64(len(v.Held)-raising) {
		w.t.Fatalf("K11: pending %d, held %d, in PhRaise %d", v.Pend, len(v.Held), raising)
	}
	cells := w.c.Cells()
	if v.Pend != cells[0] || v.Done != cells[1] || v.Fault != cells[2] || len(v.Phase) != w.p.Workers {
		w.t.Fatalf("K6: %v, cells %v", v, cells[:3])
	}
}

// behind tells which phases may come behind one (the table of the chapter; one that is over at once is passed over).
var behind = map[int][]int{
	api.PhAsk:    {api.PhAsk, api.PhTake, api.PhLook, api.PhOver},
	api.PhTake:   {api.PhTake, api.PhAsk, api.PhFail, api.PhLook},
	api.PhLook:   {api.PhRead, api.PhEnd},
	api.PhRead:   {api.PhRead, api.PhLower, api.PhEnd},
	api.PhLower:  {api.PhRead, api.PhRaise},
	api.PhRaise:  {api.PhInsert, api.PhRead, api.PhEnd},
	api.PhInsert: {api.PhInsert, api.PhRead, api.PhEnd, api.PhFail},
	api.PhEnd:    {api.PhEnd, api.PhAsk},
	api.PhFail:   {api.PhOver},
	api.PhOver:   {api.PhOver},
}

// phases: each comes behind one that it may come behind, and no other worker's changes.
func (w *watch) phases(turn api.Turn, v api.View) {
	w.t.Helper()
	for who, phase := range v.Phase {
		was := w.before.Phase[who]
		if who != turn.Who && phase != was || who == turn.Who && !slices.Contains(behind[was], phase) {
			w.t.Fatalf("the worker %d of the pick %v goes from %d to %d", who, turn, was, phase)
		}
	}
	if turn.Over != (v.Phase[turn.Who] == api.PhOver) {
		w.t.Fatalf("K4: %v, and the phase %d", turn, v.Phase[turn.Who])
	}
}

// events is K8, of those that were put down since they were looked at.
func (w *watch) events() {
	w.t.Helper()
	events, log := w.c.History(), w.c.Log()
	for _, x := range events[w.noted:] {
		if x.At < w.at || x.At < 1 || x.At > len(log) || log[x.At-1].Who != x.Who {
			w.t.Fatalf("K8: %v behind one at %d, of %d accesses", x, w.at, len(log))
		}
		if x.Kind != api.EvTask && x.Kind != api.EvInsert && x.Task != (api.Task{}) {
			w.t.Fatalf("K8: %v has a task", x)
		}
		w.at, w.full = x.At, w.full || x.Kind == api.EvFull
		ends := map[int][]int{api.EvTake: {0}, api.EvInsert: {0}, api.EvTask: {api.EvTake}, api.EvEmpty: {api.EvTake}, api.EvInserted: {api.EvInsert}, api.EvFull: {api.EvTake, api.EvInsert}}
		if !slices.Contains(ends[x.Kind], w.open[x.Who]) {
			w.t.Fatalf("K8: %v, and what is open is %d", x, w.open[x.Who])
		}
		w.open[x.Who] = 0
		if x.Kind == api.EvTake || x.Kind == api.EvInsert {
			w.open[x.Who] = x.Kind
		}
	}
	w.noted = len(events)
	for who, phase := range w.c.View().Phase {
		if want := map[int]int{api.PhTake: api.EvTake, api.PhInsert: api.EvInsert}[phase]; w.open[who] != want {
			w.t.Fatalf("K8: the worker %d is in the phase %d, and what is open is %d", who, phase, w.open[who])
		}
	}
}

// ends is K12 and K13 (P0.12, P0.14).
func (w *watch) ends(turn api.Turn, v api.View) {
	w.t.Helper()
	if v.Done != 0 && len(v.Held) > 0 {
		w.t.Fatalf("K12: done, and held %v", v.Held)
	}
	if w.before.Done != 0 && (v.Done != w.before.Done || !slices.Equal(w.labelsNow(), w.labels) || !slices.Equal(v.Born, w.before.Born)) {
		w.t.Fatal("K12: something goes on behind done")
	}
	if v.Fault != 0 && (!w.full || v.Fault != 1) || w.before.Fault != 0 && v.Fault != w.before.Fault {
		w.t.Fatalf("K13: the fault %d", v.Fault)
	}
	if turn.Moved && w.before.Phase[turn.Who] == api.PhFail && v.Fault != 1 {
		w.t.Fatal("K13: behind PhFail there is no fault")
	}
	last := api.Access{}
	if turn.Moved {
		last = w.c.Log()[w.moved-1]
	}
	if w.before.Fault != 0 && w.before.Phase[turn.Who] == api.PhAsk && last.Cell == 2 && !turn.Over {
		w.t.Fatal("K13: one asks behind the fault, and goes on")
	}
	if v.Done != 0 && v.Fault != 0 {
		w.t.Fatal("K13: done and a fault")
	}
}

// steady is K14: what is born comes of an edge, from what was born ahead; a label is the least that was born.
func (w *watch) steady(v api.View) {
	w.t.Helper()
	for i, label := range w.labelsNow() {
		least := never
		for _, b := range v.Born {
			if b.Load == uint64(i) {
				least = min(least, b.Key)
			}
		}
		if label > w.labels[i] || label != least {
			w.t.Fatalf("K14: the label of %d is %d, was %d, the least born %d", i, label, w.labels[i], least)
		}
	}
	for _, b := range v.Born {
		if !slices.Contains(w.before.Born, b) && !w.comes(b) {
			w.t.Fatalf("K14: %v comes along no edge", b)
		}
	}
}

func (w *watch) comes(b api.Task) bool {
	for _, from := range w.before.Born {
		for e := w.g.Start[from.Load]; e < w.g.Start[from.Load+1]; e++ {
			if uint64(w.g.To[e]) == b.Load && extended(w.p.Kind, from.Key, w.g.Weight[e]) == b.Key {
				return true
			}
		}
	}
	return false
}

// replay is K15 and P0.16.
func (w *watch) replay() {
	w.t.Helper()
	if at, end := arena.Replay(w.c.First(), w.c.Log()); at != -1 || !slices.Equal(end, w.c.Cells()) {
		w.t.Fatalf("K15: Replay = %d", at)
	}
}

// finish is P0.13, and K10 (P0.10) of what comes of it; it tells the outcome.
func (w *watch) finish() int {
	w.t.Helper()
	n, log := w.c.Finish(), len(w.c.Log())
	if log > w.moved+n {
		w.t.Fatalf("K4: %d picks, and %d accesses", n, log-w.moved)
	}
	w.moved = log
	w.replay()
	v, outcome := w.c.View(), w.c.Outcome()
	w.balance(v)
	l, e := w.c.Labels()
	switch outcome {
	case api.RunDone:
		want, _ := route.Search(w.g, w.p.Kind, w.p.Starts)
		if e != api.OK || !slices.Equal(l, want) || v.Fault != 0 || v.Done != 1 || len(v.Held) != 0 {
			w.t.Fatalf("K10: Labels = %v, %d, want %v; %v", l, e, want, v)
		}
	case api.RunFailed:
		if e != api.ErrState || l != nil || v.Fault != 1 || v.Done != 0 || len(v.Held) == 0 {
			w.t.Fatalf("K13: Labels = %v, %d; %v", l, e, v)
		}
	default:
		w.t.Fatalf("P0.13: the outcome %d", outcome)
	}
	return outcome
}

// TestPromises: many plans, draws and scripts; Finish from wherever these have led.
func TestPromises(t *testing.T) {
	for _, pool := range pools {
		r := rand.New(rand.NewSource(20))
		var ends [3]int
		for i := range 250 {
			g := graphByChance(r)
			w := newWatch(t, g, planByChance(t, r, g, pool, i%2 == 0))
			picks, n := r.Intn(200), 0
			for range picks {
				n = pickByChance(r, n)
				w.pick(n)
			}
			w.replay()
			ends[w.finish()]++
		}
		if ends[api.RunDone] < 50 || ends[api.RunFailed] < 5 {
			t.Errorf("the pool %d: %d runs are done, %d failed", pool, ends[api.RunDone], ends[api.RunFailed])
		}
	}
}

// TestEveryBurst: all scripts in which one worker goes on for a while, then another, then the first again, and then all in turns.
func TestEveryBurst(t *testing.T) {
	diamond := build(4, edge(0, 1, 2), edge(0, 2, 1), edge(1, 3, 1), edge(2, 3, 2), edge(2, 1, 0))
	for _, pool := range pools {
		for _, least := range []bool{false, true} {
			p := planOf(pool, 2)
			p.Per, p.In, p.Out, p.Stick = 1, 0, 1, 1
			if least {
				p.Cap, p.Slots, p.In, p.Out = 2, 1, 2, 2
			}
			ends := [3]int{}
			for a := range 30 {
				for b := range 30 {
					c := newCrew(t, diamond, p)
					c.Run(slices.Concat(slices.Repeat([]int{0}, 2*a), slices.Repeat([]int{1}, 2*b), slices.Repeat([]int{0}, b)))
					w := watchOf(t, diamond, p, c)
					for i := range 6 {
						w.pick(i)
					}
					ends[w.finish()]++
				}
			}
			if ends[api.RunDone] == 0 && !least {
				t.Errorf("the pool %d: %v", pool, ends)
			}
		}
	}
}

// TestLeastRoom: five leaves in a pool of the least room that may be: the run fails, and what was born is held.
func TestLeastRoom(t *testing.T) {
	for _, pool := range pools {
		for _, workers := range []int{1, 3} {
			p := planOf(pool, workers)
			p.Cap, p.Per, p.In, p.Out, p.Slots = 1, 1, 0, 1, 1
			if pool == api.PoolRing {
				p.Cap = 2
			}
			g := star(5)
			w := newWatch(t, g, p)
			for range 200 {
				w.pick(0)
			}
			if v := w.before; v.Phase[0] != api.PhOver || v.Fault != 1 || !w.full || len(v.Ended) != 0 {
				t.Errorf("K13: the pool %d: %v", pool, v)
			}
			if w.finish() != api.RunFailed {
				t.Errorf("K13: the pool %d finds room for five leaves", pool)
			}
			born := []api.Task{pair(0, 0), pair(1, 1), pair(1, 2), pair(1, 3), pair(1, 4), pair(1, 5)}
			if v := w.c.View(); len(v.Born) < 2 || !slices.Equal(v.Born, born[:len(v.Born)]) || !slices.Equal(v.Held, v.Born) {
				t.Errorf("K11: the pool %d: %v", pool, v)
			}
			last := w.c.History()[len(w.c.History())-1]
			if last.Kind != api.EvFull {
				t.Errorf("K8: the pool %d: the last event is %v", pool, last)
			}
		}
	}
}

// TestFullTake: a Take that must first let go of what is held back finds no room for it.
func TestFullTake(t *testing.T) {
	p := planOf(api.PoolMulti, 1)
	p.Per, p.Cap, p.In, p.Out = 1, 1, 3, 1
	w := newWatch(t, star(2), p)
	for range 100 {
		w.pick(0)
	}
	events := w.c.History()
	if n := len(events); events[n-1].Kind != api.EvFull || events[n-2].Kind != api.EvTake {
		t.Fatalf("K8: %v", events)
	}
	if w.finish() != api.RunFailed {
		t.Error("K13: the run does not fail")
	}
	if v := w.c.View(); !slices.Equal(v.Held, []api.Task{pair(1, 1), pair(1, 2)}) || !slices.Equal(v.Ended, []api.Task{pair(0, 0)}) {
		t.Errorf("K11: %v", v)
	}
}

// TestOverAtOnce: operations in the buffers take no step of their own.
func TestOverAtOnce(t *testing.T) {
	p := planOf(api.PoolMulti, 1)
	p.Per, p.In, p.Out = 1, 3, 3
	w := newWatch(t, star(3), p)
	for w.c.Outcome() == api.RunOpen {
		w.pick(0)
	}
	at := map[int]int{} // by accesses: how many events
	for _, x := range w.c.History() {
		at[x.At]++
	}
	both := 0
	for _, n := range at {
		if n == 2 {
			both++
		}
	}
	// the first two of three Inserts are held back; of three tasks that are taken at one time two are handed out of the buffer
	if both != 4 {
		t.Errorf("K8: %d operations are over at once: %v", both, w.c.History())
	}
	w.finish()
}

// TestOneAnswer: P0.15: every pool, script and draw, and goroutines; and the same again is the same.
func TestOneAnswer(t *testing.T) {
	r := rand.New(rand.NewSource(21))
	for range 40 {
		g := graphByChance(r)
		for _, pool := range pools {
			p := planByChance(t, r, g, pool, true)
			script := make([]int, r.Intn(300))
			for i := range script {
				script[i] = r.Intn(9)
			}
			a, b := newCrew(t, g, p), newCrew(t, g, p)
			for _, c := range []*crew.Crew{a, b} {
				c.Run(script)
				c.Finish()
			}
			want, _, _ := route.Rounds(g, p.Kind, p.Starts)
			wantLabels(t, a, want...)
			if !slices.Equal(a.Log(), b.Log()) || !slices.Equal(a.History(), b.History()) || !sameView(a.View(), b.View()) {
				t.Error("P0.5: the same once more is not the same")
			}
			if o, l, e := crew.Live(g, p); o != api.RunDone || e != api.OK || !slices.Equal(l, want) {
				t.Errorf("P0.15: Live = %d, %v, %d, want %v", o, l, e, want)
			}
		}
	}
}
