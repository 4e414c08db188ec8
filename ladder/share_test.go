package ladder_test

import (
	"reflect"
	"runtime"
	"slices"
	"testing"

	"wayfare/api"
	"wayfare/ladder"
)

// roomy is a list with spare room, filled with one thing.
func roomy[T any](list []T, fill T) []T {
	return append(slices.Clone(list), fill, fill, fill)[:len(list)]
}

// open is a list with its spare room.
func open[T any](l []T) []T { return slices.Clone(l[:cap(l)]) }

// spoil writes over a list and its spare room.
func spoil[T any](l []T, with T) {
	l = l[:cap(l)]
	for i := range l {
		l[i] = with
	}
}

var odd = api.Rung{From: 77, To: 77, Weight: 77, By: 77, Via: 77, Low: 77, High: 77}

// given are arguments whose lists all have spare room.
type given struct {
	G            api.Graph
	Order, Rungs []int
	L            api.Ladder
}

func makeGiven() given {
	g := example()
	l, _ := ladder.Build(g, api.KindSum, []int{1, 0, 2, 3})
	return given{
		G:     api.Graph{N: g.N, Start: roomy(g.Start, 77), To: roomy(g.To, 77), Weight: roomy(g.Weight, 77)},
		Order: roomy([]int{1, 0, 2, 3}, 77),
		Rungs: roomy([]int{8, 1}, 77),
		L:     api.Ladder{Kind: l.Kind, Rank: roomy(l.Rank, 77), Rungs: roomy(l.Rungs, odd)},
	}
}

// laidOpen is a given with all spare room.
func laidOpen(a given) given {
	return given{
		G:     api.Graph{N: a.G.N, Start: open(a.G.Start), To: open(a.G.To), Weight: open(a.G.Weight)},
		Order: open(a.Order),
		Rungs: open(a.Rungs),
		L:     api.Ladder{Kind: a.L.Kind, Rank: open(a.L.Rank), Rungs: open(a.L.Rungs)},
	}
}

func spoilGiven(a given) {
	spoil(a.G.Start, 99)
	spoil(a.G.To, 99)
	spoil(a.G.Weight, 99)
	spoil(a.Order, 99)
	spoil(a.Rungs, 99)
	spoil(a.L.Rank, 99)
	spoil(a.L.Rungs, odd)
}

// answers are those of all calls.
type answers struct {
	L        api.Ladder
	Easy     []int
	Climb    []int
	Unfold   []int
	Label    uint64
	Refusals [5]api.Errno
}

func ask(a given) answers {
	var x answers
	x.L, x.Refusals[0] = ladder.Build(a.G, api.KindSum, a.Order)
	x.Easy, x.Refusals[1] = ladder.Easy(a.G)
	x.Label, x.Climb, x.Refusals[2] = ladder.Climb(a.L, 3, 1)
	x.Unfold, x.Refusals[3] = ladder.Unfold(a.L, a.Rungs)
	x.Refusals[4], _ = ladder.Check(a.G, a.L)
	return x
}

func spoilAnswers(x answers) {
	spoil(x.L.Rungs, odd)
	spoil(x.Easy, 88)
	spoil(x.Climb, 88)
	spoil(x.Unfold, 88)
}

func TestNothingIsSharedOrChanged(t *testing.T) {
	a := makeGiven()
	first, second, third := ask(a), ask(a), ask(a)
	if first.Refusals != [5]api.Errno{} {
		t.Fatalf("refused: %v", first.Refusals)
	}
	if !reflect.DeepEqual(laidOpen(a), laidOpen(makeGiven())) {
		t.Errorf("P0.4: arguments were changed: %v", laidOpen(a))
	}
	spoilAnswers(first)
	if !slices.Equal(first.L.Rank, []int{1, 0, 2, 3}) {
		t.Errorf("P0.4: Rank shares memory with another list of the answer: %v", first.L.Rank)
	}
	spoil(first.L.Rank, 88)
	if !reflect.DeepEqual(laidOpen(a), laidOpen(makeGiven())) {
		t.Errorf("P0.4: answers share memory with arguments: %v", laidOpen(a))
	}
	spoilGiven(a)
	if !reflect.DeepEqual(second, third) || !reflect.DeepEqual(second, ask(makeGiven())) {
		t.Errorf("P0.4, P0.5: answers have changed with arguments or with one another: %v, %v", second, third)
	}
}

func TestRefusedCallsChangeNothing(t *testing.T) {
	a := makeGiven()
	ladder.Build(a.G, 9, a.Order)
	ladder.Build(a.G, api.KindSum, a.Order[:3])
	ladder.Build(a.G, api.KindSum, a.Order[:5])
	ladder.Build(api.Graph{N: 3, Start: a.G.Start, To: a.G.To, Weight: a.G.Weight}, api.KindSum, a.Order)
	ladder.Easy(api.Graph{N: 3, Start: a.G.Start, To: a.G.To, Weight: a.G.Weight})
	ladder.Check(a.G, api.Ladder{Kind: api.KindMax, Rank: a.L.Rank, Rungs: a.L.Rungs})
	ladder.Check(a.G, api.Ladder{Kind: api.KindSum, Rank: a.L.Rank[:3], Rungs: a.L.Rungs})
	ladder.Climb(a.L, 0, 9)
	ladder.Climb(api.Ladder{Kind: api.KindMax, Rank: a.L.Rank, Rungs: a.L.Rungs}, 0, 1)
	ladder.Unfold(a.L, a.Rungs[:3])
	ladder.Unfold(api.Ladder{Kind: api.KindMax, Rank: a.L.Rank, Rungs: a.L.Rungs}, a.Rungs)
	if !reflect.DeepEqual(laidOpen(a), laidOpen(makeGiven())) {
		t.Errorf("P0.4: a refused call has changed its arguments: %v", laidOpen(a))
	}
}

func TestNilAndEmptyAreAlike(t *testing.T) {
	for _, order := range [][]int{nil, {}} {
		g := api.Graph{Start: []int{0}, To: []int{}, Weight: []uint64{}}
		l, e := ladder.Build(g, api.KindSum, order)
		if len(l.Rank)+len(l.Rungs) != 0 || l.Kind != api.KindSum || e != api.OK {
			t.Errorf("P0.3: Build: %v, %d", l, e)
		}
		for _, rungs := range [][]api.Rung{nil, {}} {
			l := api.Ladder{Kind: api.KindSum, Rank: order, Rungs: rungs}
			if e, at := ladder.Check(g, l); e != api.OK || at != 0 {
				t.Errorf("P0.3: Check: %d, %d", e, at)
			}
			if _, _, e := ladder.Climb(l, 0, 0); e != api.ErrVertex {
				t.Errorf("P0.3: Climb: %d", e)
			}
			for _, asked := range [][]int{nil, {}} {
				if places, e := ladder.Unfold(l, asked); len(places) != 0 || e != api.OK {
					t.Errorf("P0.3: Unfold: %v, %d", places, e)
				}
			}
		}
	}
}

func TestRefusedCallsMakeNoLists(t *testing.T) {
	wide := api.Graph{N: api.MaxVertices, Start: make([]int, api.MaxVertices+1)}
	long := make([]int, api.MaxVertices)
	rungs := make([]api.Rung, api.MaxRungs+1)
	many, _ := doubling(api.KindMax, 30, 0)
	var ahead, behind runtime.MemStats
	runtime.ReadMemStats(&ahead)
	for _, g := range []api.Graph{{N: api.MaxVertices}, {N: 1 << 40}, wide} {
		ladder.Build(g, api.KindSum, long)
		ladder.Easy(g)
		ladder.Check(g, api.Ladder{Kind: api.KindSum, Rank: long})
	}
	ladder.Climb(api.Ladder{Kind: api.KindSum, Rank: long}, 0, 0)
	ladder.Unfold(api.Ladder{Kind: api.KindSum, Rank: long}, long)
	ladder.Climb(api.Ladder{Kind: api.KindSum, Rungs: rungs}, 0, 0)
	ladder.Unfold(api.Ladder{Kind: api.KindSum, Rungs: rungs}, long)
	ladder.Unfold(many, []int{len(many.Rungs) - 1})
	runtime.ReadMemStats(&behind)
	if n := behind.TotalAlloc - ahead.TotalAlloc; n > 1<<16 {
		t.Errorf("P0.9: refused calls take %d bytes", n)
	}
}
