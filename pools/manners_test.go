package pools_test

import (
	"math/rand"
	"slices"
	"testing"

	"wayfare/api"
	"wayfare/arena"
	"wayfare/bucket"
	"wayfare/dice"
	"wayfare/multi"
	"wayfare/ring"
	"wayfare/steal"
)

// small are the four in shapes in which an operation needs accesses.
func small(workers int) []pool {
	return []pool{
		multiPool(api.Multi{Base: 1, Workers: workers, Per: 1, Cap: 3, Arity: 2, In: 0, Out: 2, Stick: 1, Tries: 1}),
		ringPool(api.Ring{Base: 2, Cap: 3}, workers),
		stealPool(api.Steal{Base: 3, Workers: workers, Cap: 3, Tries: 1}),
		bucketPool(api.Bucket{Base: 4, Workers: workers, Slots: 2, Cap: 3, Width: 5}),
	}
}

func noDice(int) *dice.Dice { return nil }

func wantReply(t *testing.T, p pool, when string, h handle, over bool, status int, tasks ...api.Task) {
	t.Helper()
	if r := h.Reply(); h.Over() != over || !sameReply(r, said(status, tasks...)) {
		t.Errorf("%s: M4, N4, K2, U2: %s: Over %v, Reply %v, want %v, %d %v", p.name, when, h.Over(), r, over, status, tasks)
	}
}

// TestReplies: ahead of the first operation, while one is open, behind it, and while the next one is.
func TestReplies(t *testing.T) {
	for _, p := range small(1) {
		a := arenaOf(t, p, nil)
		h, port := openAll(t, p, noDice)[0], portOf(a, 0)
		toEnd := func(when string) {
			t.Helper()
			for !h.Over() {
				wantReply(t, p, when, h, false, api.StOpen)
				port.Grant()
				h.Step(port)
			}
		}
		wantReply(t, p, "ahead of the first one", h, true, api.StDone)
		h.Take()
		toEnd("a Take")
		wantReply(t, p, "of an empty pool", h, true, api.StEmpty)
		h.Insert(pair(4, 4))
		toEnd("an Insert")
		wantReply(t, p, "inserted", h, true, api.StDone)
		h.Take()
		toEnd("a Take")
		for range 3 {
			wantReply(t, p, "taken", h, true, api.StTask, pair(4, 4))
		}
	}
}

// TestStepsWithoutAnOperation make no access, and use no grant.
func TestStepsWithoutAnOperation(t *testing.T) {
	for _, p := range small(1) {
		a := arenaOf(t, p, []api.Task{pair(1, 1)})
		h, port := openAll(t, p, noDice)[0], portOf(a, 0)
		idle := func(when string) {
			t.Helper()
			ahead, was := a.Count(), h.Reply()
			port.Grant()
			for range 3 {
				h.Step(port)
			}
			if a.Count() != ahead || !port.Granted() || !h.Over() || !sameReply(h.Reply(), was) {
				t.Errorf("%s: M4, N5, K2, U2: %s a step does something", p.name, when)
			}
		}
		idle("ahead of the first operation")
		h.Take()
		for !h.Over() {
			port.Grant()
			h.Step(port)
		}
		idle("behind it")
	}
}

// meddle does what may change nothing: refused calls, and writing over what was handed out and in.
func (c *crowd) meddle(t *testing.T) {
	t.Helper()
	for _, h := range c.hs {
		if h.Over() {
			if e := h.Insert(pair(never, 3)); e != api.ErrLabel {
				t.Fatalf("%s: M3, N4, K3, U3: Insert of Never = %d", c.p.name, e)
			}
		} else if h.Insert(pair(1, 1)) != api.ErrBusy || h.Insert(pair(never, 1)) != api.ErrBusy || h.Take() != api.ErrBusy {
			t.Fatalf("%s: M3, N4, K2, U2: an operation is open", c.p.name)
		}
		r := h.Reply()
		was := said(r.Status, slices.Clone(r.Tasks)...)
		spoil(append(r.Tasks, pair(77, 77)), pair(78, 78))
		if spoil(r.Tasks, pair(79, 79)); !sameReply(h.Reply(), was) {
			t.Fatalf("%s: P0.4, N1: Reply shares: %v, want %v", c.p.name, h.Reply(), was)
		}
	}
	cells, hs := spare(77, c.a.Image()...), spare(nil, c.hs...)
	wasCells, wasHs := full(cells), full(hs)
	one, _ := c.p.held(cells, hs)
	two, _ := c.p.held(cells, hs)
	want := slices.Clone(two)
	if !slices.Equal(full(cells), wasCells) || !slices.Equal(full(hs), wasHs) {
		t.Fatalf("%s: P0.4, N1: Held changes what it is handed", c.p.name)
	}
	spoil(one, pair(76, 76))
	spoil(cells, 75)
	if !slices.Equal(two, want) {
		t.Fatalf("%s: P0.4, N1: Held shares or keeps: %v, want %v", c.p.name, two, want)
	}
}

// spare makes a list whose spare room is filled with one thing.
func spare[T any](fill T, list ...T) []T {
	room := append(slices.Clone(list), fill, fill, fill)
	return room[:len(list)]
}

// full is a list with its spare room laid open.
func full[T any](l []T) []T { return slices.Clone(l[:cap(l)]) }

// spoil writes over a list and its spare room.
func spoil[T any](l []T, with T) {
	l = l[:cap(l)]
	for i := range l {
		l[i] = with
	}
}

// TestMeddling: a run in which there is much of it goes as one without any.
func TestMeddling(t *testing.T) {
	for name, shape := range byChance {
		var logs [2][]api.Access
		var outs [2][]api.Task
		for i := range logs {
			r := rand.New(rand.NewSource(9))
			for range 30 {
				c := crowdByChance(t, r, shape(r), 10)
				for len(c.awake()) > 0 {
					awake := c.awake()
					if i == 1 {
						c.meddle(t)
					}
					c.step(t, awake[r.Intn(len(awake))])
				}
				logs[i] = append(logs[i], c.a.Log()...)
				for _, w := range c.workers {
					outs[i] = append(outs[i], w.out...)
				}
			}
		}
		if !slices.Equal(logs[0], logs[1]) || !slices.Equal(outs[0], outs[1]) {
			t.Errorf("%s: P0.4, P0.5: meddling is seen", name)
		}
	}
}

// TestFillSharesNothing: the tasks are the caller's, and so are the cells.
func TestFillSharesNothing(t *testing.T) {
	for _, p := range small(2) {
		tasks := spare(pair(77, 77), pair(7, 1), pair(4, 2), pair(6, 3))
		was := full(tasks)
		one, _ := p.fill(tasks)
		two, _ := p.fill(tasks)
		want := slices.Clone(two)
		spoil(one, 8)
		if !slices.Equal(full(tasks), was) {
			t.Errorf("%s: P0.4, N1: Fill changes %v", p.name, full(tasks))
		}
		spoil(tasks, pair(9, 9))
		if len(want) == 0 || !slices.Equal(two, want) {
			t.Errorf("%s: P0.4, N1: Fill shares or keeps", p.name)
		}
		none, e := p.fill(nil)
		empty, f := p.fill([]api.Task{})
		if e != api.OK || f != api.OK || !slices.Equal(none, empty) {
			t.Errorf("%s: P0.3: nil and no tasks are not alike", p.name)
		}
	}
}

// TestFillHolds: what was filled in is held, and comes out, each once, by one worker alone, wherever it lies.
func TestFillHolds(t *testing.T) {
	r := rand.New(rand.NewSource(10))
	for name, shape := range byChance {
		for range 100 {
			p := shape(r)
			first := fillByChance(r, p)
			c := newCrowd(t, p, 1, first, slices.Repeat([]order{take}, len(first)))
			c.inTurns(t)
			if w := c.workers[0]; !slices.Equal(sorted(w.out), sorted(first)) {
				t.Fatalf("%s: M7, N9, K7, U6: filled with %v, out come %v", name, first, w.out)
			}
		}
	}
}

// TestHandlesThatAreNone: no call breaks by them, and none of them begins anything.
func TestHandlesThatAreNone(t *testing.T) {
	a := arenaWith(t, make([]uint64, 9))
	p := portOf(a, 0)
	for i, h := range []handle{
		(*multi.Handle)(nil), new(multi.Handle), (*ring.Handle)(nil), new(ring.Handle),
		(*steal.Handle)(nil), new(steal.Handle), (*bucket.Handle)(nil), new(bucket.Handle),
	} {
		if h.Insert(pair(1, 1)) == api.OK || h.Take() == api.OK || !h.Over() || len(h.Reply().Tasks) != 0 {
			t.Errorf("P0.1, N1: handle %d begins an operation", i)
		}
		p.Grant()
		if h.Step(p); a.Count() != 0 {
			t.Errorf("P0.1, N1: handle %d makes an access", i)
		}
	}
}

// TestPortsThatLeadNowhere: operations go on with 0 and false (N5).
func TestPortsThatLeadNowhere(t *testing.T) {
	few := arenaWith(t, nil)
	for _, p := range small(2) {
		for _, port := range []*arena.Port{nil, {}, portOf(few, 0)} {
			hs := openAll(t, p, noDice)
			hs[0].Insert(pair(6, 6))
			hs[1].Take()
			for range 50 {
				for _, h := range hs {
					port.Grant()
					h.Step(port)
				}
			}
			cells := arenaOf(t, p, nil).Image()
			if _, e := p.held(cells, hs); e != api.OK {
				t.Errorf("%s: Held = %d", p.name, e)
			}
		}
	}
}

// TestDiceOfOnesOwn: each handle draws from the dice that it was handed, and from no other.
func TestDiceOfOnesOwn(t *testing.T) {
	for _, p := range []pool{small(3)[0], small(3)[2]} {
		a := arenaOf(t, p, nil)
		ds := []*dice.Dice{dice.New(1, nil), dice.New(2, nil), dice.New(3, nil)}
		hs := openAll(t, p, func(who int) *dice.Dice { return ds[who] })
		hs[1].Take()
		for port := portOf(a, 1); !hs[1].Over(); {
			port.Grant()
			hs[1].Step(port)
		}
		if ds[0].Used() != 0 || ds[1].Used() == 0 || ds[2].Used() != 0 {
			t.Errorf("%s: M2, K2: %d, %d, %d words are drawn", p.name, ds[0].Used(), ds[1].Used(), ds[2].Used())
		}
	}
}
