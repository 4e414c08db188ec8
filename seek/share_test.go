package seek_test

import (
	"reflect"
	"runtime"
	"slices"
	"testing"

	"wayfare/api"
	"wayfare/seek"
)

// roomy is a list with spare room, filled with one thing.
func roomy[T any](list []T, fill T) []T {
	return append(slices.Clone(list), fill, fill, fill)[:len(list)]
}

// open is a list with its spare room.
func open[T any](l []T) []T { return slices.Clone(l[:cap(l)]) }

// spoil writes over a list and its spare room.
func spoil[T any](l []T, with T) {
	l = l[:cap(l)]
	for i := range l {
		l[i] = with
	}
}

// given are arguments whose lists all have spare room.
type given struct {
	G  api.Graph
	At []int
	M  api.Marks
}

func makeGiven() given {
	g := small()
	m, _ := seek.Mark(g, []int{2, 0})
	rows := func(l [][]uint64) [][]uint64 {
		return roomy([][]uint64{roomy(l[0], 77), roomy(l[1], 77)}, []uint64{77})
	}
	return given{
		G:  api.Graph{N: g.N, Start: roomy(g.Start, 77), To: roomy(g.To, 77), Weight: roomy(g.Weight, 77)},
		At: roomy([]int{2, 0}, 77),
		M:  api.Marks{At: roomy(m.At, 77), From: rows(m.From), To: rows(m.To)},
	}
}

// laidOpen is a given with all spare room.
func laidOpen(a given) given {
	rows := func(l [][]uint64) [][]uint64 {
		out := open(l)
		for i := range out {
			out[i] = open(out[i])
		}
		return out
	}
	return given{
		G:  api.Graph{N: a.G.N, Start: open(a.G.Start), To: open(a.G.To), Weight: open(a.G.Weight)},
		At: open(a.At),
		M:  api.Marks{At: open(a.M.At), From: rows(a.M.From), To: rows(a.M.To)},
	}
}

func spoilGiven(a given) {
	spoil(a.G.Start, 99)
	spoil(a.G.To, 99)
	spoil(a.G.Weight, 99)
	spoil(a.At, 99)
	spoilMarks(a.M)
}

func spoilMarks(m api.Marks) {
	spoil(m.At, 99)
	for i := range m.From {
		spoil(m.From[i], 99)
		spoil(m.To[i], 99)
	}
	spoil(m.From, []uint64{99})
	spoil(m.To, []uint64{99})
}

// answers are those of all calls.
type answers struct {
	Both, Guided api.Way
	Marks        api.Marks
	Far          []int
	Bound        uint64
	Refusals     [6]api.Errno
}

func ask(a given) answers {
	var x answers
	x.Both, x.Refusals[0] = seek.Both(a.G, api.KindSum, 0, 1)
	x.Guided, x.Refusals[1] = seek.Guided(a.G, a.M, 0, 1)
	x.Marks, x.Refusals[2] = seek.Mark(a.G, a.At)
	x.Far, x.Refusals[3] = seek.Far(a.G, 0, 3)
	x.Bound, x.Refusals[4] = seek.Bound(a.G, a.M, 0, 1)
	x.Refusals[5], _ = seek.Check(a.G, a.M)
	return x
}

func spoilAnswers(x answers) {
	spoil(x.Both.Edges, 88)
	spoil(x.Guided.Edges, 88)
	spoilMarks(x.Marks)
	spoil(x.Far, 88)
}

func TestNothingIsSharedOrChanged(t *testing.T) {
	a := makeGiven()
	first, second, third := ask(a), ask(a), ask(a)
	if first.Refusals != [6]api.Errno{} {
		t.Fatalf("refused: %v", first.Refusals)
	}
	if !reflect.DeepEqual(laidOpen(a), laidOpen(makeGiven())) {
		t.Errorf("S1: arguments were changed: %v", laidOpen(a))
	}
	spoilAnswers(first)
	if !reflect.DeepEqual(laidOpen(a), laidOpen(makeGiven())) {
		t.Errorf("S1: answers share memory with arguments: %v", laidOpen(a))
	}
	spoilGiven(a)
	if !reflect.DeepEqual(second, third) || !reflect.DeepEqual(second, ask(makeGiven())) {
		t.Errorf("S1, P0.5: answers have changed with arguments or with one another: %v, %v", second, third)
	}
}

// TestListsOfMarksAreApart: each list of an answer is spoilt with its spare room, and the others stay, also where landmarks are alike.
func TestListsOfMarksAreApart(t *testing.T) {
	g := small()
	lists := func(m api.Marks) [][]uint64 { return append(slices.Clone(m.From), m.To...) }
	for i := range 6 {
		m, want := mark(t, g, 2, 2, 0), mark(t, g, 2, 2, 0)
		spoil(lists(m)[i], 99)
		for j, l := range lists(m) {
			if i != j && !slices.Equal(l, lists(want)[j]) {
				t.Errorf("S1: the rows %d and %d share memory", i, j)
			}
		}
		if !slices.Equal(m.At, want.At) {
			t.Errorf("S1: the row %d shares memory with At", i)
		}
	}
	m := mark(t, g, 2, 2, 0)
	spoil(m.From, nil)
	if len(m.To[0]) != 4 {
		t.Error("S1: From and To share memory")
	}
}

func TestRefusedCallsChangeNothing(t *testing.T) {
	a := makeGiven()
	seek.Both(a.G, 9, 0, 1)
	seek.Both(a.G, api.KindSum, 0, 9)
	seek.Both(a.G, api.KindSum, 1, 0)
	seek.Mark(a.G, []int{9})
	seek.Far(a.G, 9, 1)
	seek.Guided(a.G, a.M, 1, 0)
	seek.Guided(a.G, api.Marks{At: a.M.At, From: a.M.To, To: a.M.From}, 1, 0)
	seek.Bound(a.G, api.Marks{At: a.M.At, From: a.M.From[:1], To: a.M.To}, 1, 0)
	seek.Check(api.Graph{N: 3, Start: a.G.Start, To: a.G.To, Weight: a.G.Weight}, a.M)
	if !reflect.DeepEqual(laidOpen(a), laidOpen(makeGiven())) {
		t.Errorf("P0.4: a refused call has changed its arguments: %v", laidOpen(a))
	}
}

func TestNilAndEmptyAreAlike(t *testing.T) {
	g := small()
	for _, m := range []api.Marks{{}, {At: []int{}, From: [][]uint64{}, To: [][]uint64{}}, {From: [][]uint64{}}} {
		if e, at := seek.Check(g, m); e != api.OK || at != 0 {
			t.Errorf("P0.3: Check: %d, %d", e, at)
		}
		if x, e := seek.Bound(g, m, 0, 1); x != 0 || e != api.OK {
			t.Errorf("P0.3: Bound: %d, %d", x, e)
		}
		if w, e := seek.Guided(g, m, 0, 1); w.Label != 3 || e != api.OK {
			t.Errorf("P0.3: Guided: %v, %d", w, e)
		}
	}
	for _, rows := range [][]uint64{nil, {}} {
		if e, at := seek.Check(g, api.Marks{At: []int{2}, From: [][]uint64{rows}, To: [][]uint64{rows}}); e != api.ErrList || at != 0 {
			t.Errorf("P0.3: Check: %d, %d", e, at)
		}
	}
	for _, at := range [][]int{nil, {}} {
		if m, e := seek.Mark(g, at); len(m.At)+len(m.From)+len(m.To) != 0 || e != api.OK {
			t.Errorf("P0.3: Mark: %v, %d", m, e)
		}
	}
	lone := api.Graph{N: 1, Start: []int{0, 0}, To: []int{}, Weight: []uint64{}}
	if w, e := seek.Both(lone, api.KindMax, 0, 0); w.Label != 0 || len(w.Edges) != 0 || e != api.OK {
		t.Errorf("P0.3: Both: %v, %d", w, e)
	}
}

func TestRefusedCallsMakeNoLists(t *testing.T) {
	var ahead, behind runtime.MemStats
	runtime.ReadMemStats(&ahead)
	for _, n := range []int{api.MaxVertices, 1 << 40} {
		a := given{G: api.Graph{N: n}}
		ask(a)
	}
	seek.Far(small(), 0, 1<<40)
	seek.Both(small(), 9, 0, 0)
	runtime.ReadMemStats(&behind)
	if n := behind.TotalAlloc - ahead.TotalAlloc; n > 1<<16 {
		t.Errorf("P0.9: refused calls take %d bytes", n)
	}
}
