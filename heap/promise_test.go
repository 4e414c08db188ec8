package heap_test

import (
	"math/rand"
	"slices"
	"testing"

	"wayfare/api"
	"wayfare/arena"
	"wayfare/heap"
)

func items(t *testing.T, h api.Heap, a *arena.Arena) []api.Task {
	t.Helper()
	l, e := heap.Items(h, a.Image())
	if e != api.OK {
		t.Fatalf("H3: Items = %d", e)
	}
	return l
}

func wantValid(t *testing.T, h api.Heap, a *arena.Arena, want bool) {
	t.Helper()
	if ok, e := heap.Valid(h, a.Image()); ok != want || e != api.OK {
		t.Fatalf("H8: Valid = %v, %d", ok, e)
	}
}

// keeps steps an operation to its end: Hold stays as it is, but for what goes into the reply.
func keeps(t *testing.T, h api.Heap, a *arena.Arena, o *heap.Op, held []api.Task) {
	t.Helper()
	p := newPort(t, a)
	for !o.Over() {
		if l, e := o.Hold(a.Image()); !slices.Equal(l, held) || e != api.OK {
			t.Fatalf("H7: Hold = %v, %d, want %v", l, e, held)
		}
		p.Grant()
		o.Step(p)
	}
	r := o.Reply()
	left, e := o.Hold(a.Image())
	if e != api.OK || !slices.Equal(left, items(t, h, a)) {
		t.Fatalf("H5: Hold of one that is over = %v, %d", left, e)
	}
	if got := sorted(append(left, r.Tasks...)); !slices.Equal(got, held) {
		t.Fatalf("H7: behind the end there are %v, want %v", got, held)
	}
}

// TestNothingIsLost: pushes and pops by chance: H7, H8 and H9 at each of them.
func TestNothingIsLost(t *testing.T) {
	r := rand.New(rand.NewSource(6))
	for range 150 {
		h := api.Heap{Base: r.Intn(5), Cap: 1 + r.Intn(30), Arity: 2 + r.Intn(15)}
		a := filled(t, h, chance(r, r.Intn(h.Cap+1))...)
		for range 60 {
			wantValid(t, h, a, true)
			there := items(t, h, a)
			if r.Intn(2) == 0 {
				x := chance(r, 1)[0]
				o := push(t, h, x)
				keeps(t, h, a, o, sorted(append(slices.Clone(there), x)))
				wantFull(t, o, x, len(there) == h.Cap)
				continue
			}
			wantLeast(t, h, a, there)
		}
		wantValid(t, h, a, true)
	}
}

func wantFull(t *testing.T, o *heap.Op, x api.Task, full bool) {
	t.Helper()
	if full {
		wantReply(t, o, api.StFull, x)
	} else {
		wantReply(t, o, api.StDone)
	}
}

// wantLeast peeks and pops: both tell one task, with the least key.
func wantLeast(t *testing.T, h api.Heap, a *arena.Arena, there []api.Task) {
	t.Helper()
	seen, _ := play(t, a, peek(t, h))
	if !slices.Equal(items(t, h, a), there) {
		t.Fatal("H7: Peek changes the heap")
	}
	o := pop(t, h)
	if len(there) == 0 {
		play(t, a, o)
		wantReply(t, o, api.StEmpty)
		return
	}
	p := newPort(t, a)
	for !o.Over() {
		if l, e := o.Hold(a.Image()); !slices.Equal(l, there) || e != api.OK {
			t.Fatalf("H7: Hold of a Pop = %v, %d, want %v", l, e, there)
		}
		p.Grant()
		o.Step(p)
	}
	got := o.Reply()
	if got.Status != api.StTask || len(got.Tasks) != 1 || got.Tasks[0].Key != there[0].Key {
		t.Fatalf("H9: Pop = %v of %v", got, there)
	}
	if seen.Status != api.StTask || !slices.Equal(seen.Tasks, got.Tasks) {
		t.Errorf("H9: Peek = %v, Pop = %v", seen, got)
	}
	if now := sorted(append(items(t, h, a), got.Tasks...)); !slices.Equal(now, there) {
		t.Fatalf("H7: a Pop leaves %v of %v", now, there)
	}
}

// TestSorting: what is pushed comes out with keys that never fall.
func TestSorting(t *testing.T) {
	r := rand.New(rand.NewSource(7))
	for _, n := range []int{0, 1, 2, 3, 17, 200} {
		for _, arity := range []int{2, 3, 7, api.MaxArity} {
			h := api.Heap{Base: 2, Cap: n + 1, Arity: arity}
			a, tasks := newArena(t, h, nil), chance(r, n)
			for _, x := range tasks {
				play(t, a, push(t, h, x))
			}
			var out []api.Task
			for {
				reply, _ := play(t, a, pop(t, h))
				if reply.Status == api.StEmpty {
					break
				}
				out = append(out, reply.Tasks...)
			}
			for i := 1; i < len(out); i++ {
				if out[i].Key < out[i-1].Key {
					t.Fatalf("H10: a key falls: %v", out)
				}
			}
			if !slices.Equal(sorted(out), sorted(tasks)) {
				t.Errorf("H10: %v came out of %v", out, tasks)
			}
		}
	}
}

// levels is the L of H11.
func levels(h api.Heap) int {
	sum, power, l := 1, 1, 0
	for sum < h.Cap {
		power *= h.Arity
		sum += power
		l++
	}
	return l
}

// TestSteps: falling keys go all the way up, and what is put down behind a Pop goes all the way down.
func TestSteps(t *testing.T) {
	for _, arity := range []int{2, 3, 4, 5, 15, api.MaxArity} {
		for _, size := range []int{1, 2, 3, 4, 5, 7, 8, 13, 14, 17, 18, 63, 64, 65, 273, 274} {
			h := api.Heap{Cap: size, Arity: arity}
			a, l := newArena(t, h, nil), levels(h)
			most := 0
			for i := range size {
				_, log := play(t, a, push(t, h, pair(uint64(size-i), 0)))
				most = max(most, len(log))
			}
			if bound := 4 + 4*l; most != bound {
				t.Errorf("H11: %v: a Push makes %d accesses, want up to %d", h, most, bound)
			}
			for range size {
				if _, log := play(t, a, pop(t, h)); len(log) > 8+(arity+3)*l {
					t.Errorf("H11: %v: a Pop makes %d accesses, want at most %d", h, len(log), 8+(arity+3)*l)
				}
			}
		}
	}
}

// TestStepsOfTheGreatest: a heap of MaxCap, all of it walked.
func TestStepsOfTheGreatest(t *testing.T) {
	for _, arity := range []int{2, api.MaxArity} {
		h := api.Heap{Cap: api.MaxCap, Arity: arity}
		tasks := make([]api.Task, h.Cap-1)
		for i := range tasks {
			tasks[i].Key = uint64(i) + 1
		}
		a, l := filled(t, h, tasks...), levels(h)
		if _, log := play(t, a, push(t, h, pair(0, 0))); len(log) != 4+4*l {
			t.Errorf("H11: arity %d: a Push makes %d accesses, want %d", arity, len(log), 4+4*l)
		}
		reply, log := play(t, a, pop(t, h))
		if len(log) > 8+(arity+3)*l || !slices.Equal(reply.Tasks, []api.Task{{}}) {
			t.Errorf("H11: arity %d: a Pop makes %d accesses: %v", arity, len(log), reply)
		}
		wantValid(t, h, a, true)
	}
}

// TestNotAHeap: H7 asks nothing of the keys.
func TestNotAHeap(t *testing.T) {
	r := rand.New(rand.NewSource(8))
	for range 1000 {
		h := api.Heap{Base: 1, Cap: 1 + r.Intn(20), Arity: 2 + r.Intn(3)}
		cells := make([]uint64, 2+2*h.Cap)
		for i := range cells {
			cells[i] = uint64(r.Intn(9))
		}
		cells[h.Base] = uint64(r.Intn(h.Cap + 1))
		a := newArena(t, h, cells)
		there := items(t, h, a)
		switch r.Intn(3) {
		case 0:
			x := pair(uint64(r.Intn(9)), 3)
			keeps(t, h, a, push(t, h, x), sorted(append(there, x)))
		case 1:
			keeps(t, h, a, pop(t, h), there)
		case 2:
			play(t, a, peek(t, h))
			if !slices.Equal(a.Image(), cells) {
				t.Error("Peek changes cells")
			}
		}
	}
}
