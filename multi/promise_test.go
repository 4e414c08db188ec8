package multi_test

import (
	"math/rand"
	"slices"
	"testing"

	"wayfare/api"
	"wayfare/multi"
)

func shapeByChance(r *rand.Rand) api.Multi {
	return api.Multi{Base: r.Intn(3), Workers: 1 + r.Intn(3), Per: 1 + r.Intn(3), Cap: 1 + r.Intn(4), Arity: 2 + r.Intn(3), In: r.Intn(4), Out: 1 + r.Intn(3), Stick: 1 + r.Intn(3), Tries: 1 + r.Intn(3)}
}

// begin begins an operation by chance.
func (x *table) begin(r *rand.Rand, who int) {
	if r.Intn(2) == 0 {
		x.hs[who].Take()
		return
	}
	x.hs[who].Insert(pair(uint64(r.Intn(9)), uint64(r.Intn(9))))
}

// TestEmpty: a Take alone that ends with StEmpty leaves nothing in the lanes nor in its handle.
func TestEmpty(t *testing.T) {
	r, seen := rand.New(rand.NewSource(1)), 0
	for range 200 {
		x := newTable(t, shapeByChance(r), nil)
		for range 60 {
			who := r.Intn(x.m.Workers)
			x.begin(r, who)
			x.play(who)
			if x.hs[who].Reply().Status != api.StEmpty {
				continue
			}
			seen++
			if l, _ := multi.Held(x.m, x.a.Image(), x.hs[who:who+1]); len(l) != 0 {
				t.Fatalf("M8: StEmpty, and %v are there", l)
			}
		}
	}
	if seen < 200 {
		t.Errorf("only %d Takes end with StEmpty", seen)
	}
}

// TestLocks: at each time a worker has one lock at most, nobody frees another's, and nobody who is over has one.
func TestLocks(t *testing.T) {
	r := rand.New(rand.NewSource(2))
	for range 150 {
		x := newTable(t, shapeByChance(r), nil)
		wide := 3 + 2*x.m.Cap
		for range 300 {
			who := r.Intn(x.m.Workers)
			if x.hs[who].Over() {
				x.begin(r, who)
				continue
			}
			x.steps(who, 1)
			l := x.a.Log()
			if y := l[len(l)-1]; y.Kind == api.AccStore && (y.Cell-x.m.Base)%wide == 0 && y.Seen != uint64(who)+1 {
				t.Fatalf("M9: the worker %d frees the lock of %d", who, y.Seen)
			}
			x.lookAtLocks(t, wide)
		}
	}
}

// lookAtLocks: a lock's cell is that of a worker with an open operation, of one lock at most.
func (x *table) lookAtLocks(t *testing.T, wide int) {
	t.Helper()
	var owners []uint64
	for q := range x.m.Workers * x.m.Per {
		v, _ := x.a.Peek(x.m.Base + q*wide)
		if v == 0 {
			continue
		}
		if slices.Contains(owners, v) || x.hs[v-1].Over() {
			t.Fatalf("M9: the worker %d has two locks, or is over and has one", v-1)
		}
		owners = append(owners, v)
	}
}

// TestNoPopOfNever: without anything held back a Take locks such lanes alone whose top it has just seen, and not Never.
func TestNoPopOfNever(t *testing.T) {
	r, seen := rand.New(rand.NewSource(3)), 0
	for range 150 {
		m := shapeByChance(r)
		m.In = 0
		x := newTable(t, m, nil)
		wide := 3 + 2*m.Cap
		last := make([]map[int]uint64, m.Workers) // of one that takes: the tops it has seen since its last Pop
		for range 300 {
			who := r.Intn(m.Workers)
			if x.hs[who].Over() {
				last[who] = nil
				if full := x.hs[who].Reply().Status == api.StFull; !full && r.Intn(2) == 0 {
					x.hs[who].Insert(pair(uint64(r.Intn(9)), 0))
				} else if !full { // one that had no room keeps it, and would push it in a Take
					x.hs[who].Take()
					last[who] = map[int]uint64{}
				}
				continue
			}
			x.steps(who, 1)
			l := x.a.Log()
			y := l[len(l)-1]
			q, at := (y.Cell-m.Base)/wide, (y.Cell-m.Base)%wide
			switch {
			case last[who] == nil:
			case y.Kind == api.AccLoad && at == 1:
				if v, is := last[who][q]; !is || y.Seen < v { // a lane that is looked at as both may be emptied between
					last[who][q] = y.Seen
				}
			case y.Kind == api.AccCas:
				seen++
				if v, is := last[who][q]; !is || v == never {
					t.Fatalf("M9: a Pop is begun at the lane %d, whose top was seen: %v, %d", q, is, v)
				}
				last[who] = map[int]uint64{}
			}
		}
	}
	if seen < 500 {
		t.Errorf("only %d Pops are begun", seen)
	}
}

// TestOrder: with one worker, one lane and no buffers, a task with the least key comes.
func TestOrder(t *testing.T) {
	r := rand.New(rand.NewSource(4))
	for range 100 {
		m := api.Multi{Workers: 1, Per: 1, Cap: 30, Arity: 2 + r.Intn(15), In: 0, Out: 1, Stick: 1 + r.Intn(64), Tries: 1 + r.Intn(64)}
		x := newTable(t, m, nil)
		for range 60 {
			held, _ := multi.Held(m, x.a.Image(), x.hs)
			if len(held) < m.Cap && r.Intn(5) < 3 {
				x.insert(t, 0, pair(uint64(r.Intn(20)), r.Uint64()))
				x.wantReply(t, 0, api.StDone)
				continue
			}
			x.take(t, 0)
			switch got := x.hs[0].Reply(); {
			case len(held) == 0:
				x.wantReply(t, 0, api.StEmpty)
			case got.Status != api.StTask || len(got.Tasks) != 1 || got.Tasks[0].Key != held[0].Key:
				t.Fatalf("M10: of %v comes %v", held, got)
			}
		}
	}
}
