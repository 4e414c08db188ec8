package route_test

import (
	"reflect"
	"runtime"
	"slices"
	"testing"

	"wayfare/api"
	"wayfare/route"
)

// spare makes a list whose spare room is filled with one number.
func spare[T any](fill T, list ...T) []T {
	room := append(slices.Clone(list), fill, fill, fill)
	return room[:len(list)]
}

// given are arguments whose lists all have spare room.
type given struct {
	g      api.Graph
	starts []api.Start
	labels []uint64
	by     []int
	way    []int
}

func makeGiven() given {
	return given{
		g:      api.Graph{N: 4, Start: spare(77, 0, 2, 3, 4, 4), To: spare(77, 1, 2, 2, 1), Weight: spare[uint64](77, 5, 1, 0, 2)},
		starts: spare(start(77, 77), start(0, 0), start(0, 3)),
		labels: spare(77, 0, 3, 1, never),
		by:     spare(77, -1, 3, 1, -1),
		way:    spare(77, 1, 3),
	}
}

// whole is a given with all spare room laid open.
func whole(a given) given {
	a.g.Start, a.g.To, a.g.Weight = full(a.g.Start), full(a.g.To), full(a.g.Weight)
	a.starts, a.labels, a.by, a.way = full(a.starts), full(a.labels), full(a.by), full(a.way)
	return a
}

func full[T any](l []T) []T { return slices.Clone(l[:cap(l)]) }

// answers are those of all calls.
type answers struct {
	one, all  []api.Start
	search    []uint64
	rounds    []uint64
	by, depth []int
	path      []int
}

func ask(t *testing.T, a given) answers {
	t.Helper()
	var out answers
	e := make([]api.Errno, 8)
	out.one, e[0] = route.Starts(a.g, api.KindSum, 0)
	out.all, e[1] = route.Starts(a.g, api.KindLabel, 0)
	out.search, e[2] = route.Search(a.g, api.KindSum, a.starts)
	out.rounds, _, e[3] = route.Rounds(a.g, api.KindSum, a.starts)
	out.by, out.depth, e[4] = route.Tree(a.g, api.KindSum, a.starts, a.labels)
	out.path, e[5] = route.Path(a.g, a.by, 1)
	_, e[6] = route.Length(a.g, api.KindSum, 0, a.way)
	for i, e := range e {
		if e != api.OK {
			t.Errorf("call %d refuses: %d", i, e)
		}
	}
	return out
}

// spoil writes over a list and its spare room.
func spoil[T any](l []T, with T) {
	l = l[:cap(l)]
	for i := range l {
		l[i] = with
	}
}

func spoilGiven(a given) {
	spoil(a.g.Start, 9)
	spoil(a.g.To, 9)
	spoil(a.g.Weight, 9)
	spoil(a.starts, start(9, 9))
	spoil(a.labels, 9)
	spoil(a.by, 9)
	spoil(a.way, 9)
}

func spoilAnswers(x answers) {
	spoil(x.one, start(8, 8))
	spoil(x.all, start(8, 8))
	spoil(x.search, 8)
	spoil(x.rounds, 8)
	spoil(x.by, 8)
	spoil(x.path, 8)
}

func TestNothingIsSharedOrChanged(t *testing.T) {
	a := makeGiven()
	first, second, third := ask(t, a), ask(t, a), ask(t, a)
	if !reflect.DeepEqual(whole(a), whole(makeGiven())) {
		t.Errorf("R1: arguments were changed: %v", whole(a))
	}
	spoilAnswers(first)
	if !reflect.DeepEqual(whole(a), whole(makeGiven())) {
		t.Errorf("R1: answers share memory with arguments: %v", whole(a))
	}
	if !reflect.DeepEqual(second, third) {
		t.Errorf("P0.4: answers share memory with others: %v, %v", second, third)
	}
	if !slices.Equal(first.depth, second.depth) {
		t.Errorf("P0.4: two lists of one answer share memory: %v", first.depth)
	}
	spoilGiven(a)
	if !reflect.DeepEqual(second, third) || !slices.Equal(second.path, []int{1, 3}) || !slices.Equal(second.search, []uint64{0, 3, 1, never}) {
		t.Errorf("R1: arguments were kept: %v", second)
	}
	if !reflect.DeepEqual(ask(t, makeGiven()), second) {
		t.Errorf("P0.5: a call hangs on what others were handed: %v", second)
	}
}

func TestRefusedCallsChangeNothing(t *testing.T) {
	a := makeGiven()
	bad := spare(start(77, 77), start(0, 0), start(9, 0))
	route.Starts(a.g, api.KindLabel, 9)
	route.Search(a.g, api.KindSum, bad)
	route.Rounds(a.g, api.KindSum, bad)
	route.Tree(a.g, api.KindSum, bad, a.labels)
	route.Tree(a.g, api.KindHops, a.starts, a.labels)
	route.Tree(a.g, api.KindSum, a.starts, a.labels[:3])
	route.Path(a.g, a.by[:3], 0)
	route.Path(a.g, a.by, 9)
	route.Length(a.g, api.KindSum, 0, []int{3, 0})
	route.Length(a.g, 9, 0, a.way)
	if !reflect.DeepEqual(whole(a), whole(makeGiven())) || !slices.Equal(full(bad)[:3], []api.Start{start(0, 0), start(9, 0), start(77, 77)}) {
		t.Errorf("P0.4: a refused call has changed its arguments: %v", whole(a))
	}
}

func TestRefusedCallsMakeNoLists(t *testing.T) {
	huge := api.Graph{N: api.MaxVertices}
	past := api.Graph{N: 1 << 40}
	var ahead, behind runtime.MemStats
	runtime.ReadMemStats(&ahead)
	for _, g := range []api.Graph{huge, past} {
		route.Starts(g, api.KindLabel, 0)
		route.Search(g, api.KindSum, nil)
		route.Rounds(g, api.KindSum, nil)
		route.Tree(g, api.KindSum, nil, nil)
		route.Path(g, nil, 0)
		route.Length(g, api.KindSum, 0, nil)
	}
	runtime.ReadMemStats(&behind)
	if n := behind.TotalAlloc - ahead.TotalAlloc; n > 1<<16 {
		t.Errorf("P0.9: graphs that are none take %d bytes", n)
	}
}

func TestNilAndEmptyAreAlike(t *testing.T) {
	g := build(2, edge(0, 1, 1))
	one, e := route.Search(g, api.KindSum, nil)
	two, f := route.Search(g, api.KindSum, []api.Start{})
	if !slices.Equal(one, two) || e != f {
		t.Errorf("P0.3: Search: %v, %v", one, two)
	}
	for _, to := range [][]int{nil, {}} {
		for _, weight := range [][]uint64{nil, {}} {
			lone := api.Graph{N: 1, Start: []int{0, 0}, To: to, Weight: weight}
			if l, e := route.Search(lone, api.KindSum, []api.Start{start(0, 2)}); !slices.Equal(l, []uint64{2}) || e != api.OK {
				t.Errorf("P0.3: no edges: %v, %d", l, e)
			}
		}
	}
	for _, way := range [][]int{nil, {}} {
		if x, e := route.Length(g, api.KindSum, 5, way); x != 5 || e != api.OK {
			t.Errorf("P0.3: Length: %d, %d", x, e)
		}
	}
	empty := api.Graph{Start: []int{0}, To: []int{}, Weight: []uint64{}}
	for _, labels := range [][]uint64{nil, {}} {
		if by, depth, e := route.Tree(empty, api.KindSum, nil, labels); len(by) != 0 || len(depth) != 0 || e != api.OK {
			t.Errorf("P0.3: Tree: %v, %v, %d", by, depth, e)
		}
	}
}
