package terms_test

import (
	"math"
	"slices"
	"testing"

	"wayfare/api"
	"wayfare/terms"
)

// asked is what a search may be asked, and the answer.
type asked struct {
	g      api.Graph
	kind   int
	starts []api.Start
	want   api.Errno
}

func start(vertex int, label uint64) api.Start {
	return api.Start{Vertex: vertex, Label: label}
}

func TestFaultsInTheirOrder(t *testing.T) {
	g := api.Graph{N: 2, Start: []int{0, 1, 1}, To: []int{1}, Weight: []uint64{api.MaxWeight}}
	none := api.Graph{Start: []int{0}}
	broken := api.Graph{N: 2, Start: []int{0, 1, 1}, To: []int{2}, Weight: []uint64{api.MaxWeight + 1}}
	const far = api.MaxLabel + 1
	for i, c := range []asked{
		{g, api.KindSum, nil, api.OK},
		{g, api.KindHops, []api.Start{start(1, api.MaxLabel), start(1, 0)}, api.OK},
		{g, api.KindMax, []api.Start{}, api.OK},
		{g, api.KindLabel, nil, api.OK},
		{none, api.KindSum, nil, api.OK},
		{none, api.KindSum, []api.Start{start(0, 0)}, api.ErrVertex},
		{api.Graph{}, 0, []api.Start{start(9, far)}, api.ErrRows},
		{broken, 0, []api.Start{start(9, far)}, api.ErrVertex},
		{api.Graph{N: -1}, 0, nil, api.ErrSize},
		{g, 0, []api.Start{start(9, far)}, api.ErrKind},
		{g, 5, nil, api.ErrKind},
		{g, -1, nil, api.ErrKind},
		{g, math.MaxInt, nil, api.ErrKind},
		{g, math.MinInt, nil, api.ErrKind},
		{g, api.KindSum, []api.Start{start(2, far)}, api.ErrVertex},
		{g, api.KindSum, []api.Start{start(-1, 0)}, api.ErrVertex},
		{g, api.KindSum, []api.Start{start(0, 0), start(0, far), start(2, 0)}, api.ErrLabel},
		{g, api.KindSum, []api.Start{start(0, 0), start(2, 0), start(0, far)}, api.ErrVertex},
		{g, api.KindSum, []api.Start{start(0, api.Never)}, api.ErrLabel},
	} {
		if e := terms.Search(c.g, c.kind, c.starts); e != c.want {
			t.Errorf("chapter 9, errors in their order: %d: %d, want %d", i, e, c.want)
		}
	}
}

func TestStarted(t *testing.T) {
	for i, c := range []struct {
		n      int
		starts []api.Start
		want   []uint64
	}{
		{0, nil, nil},
		{2, nil, []uint64{api.Never, api.Never}},
		{3, []api.Start{start(2, 5), start(0, api.MaxLabel), start(2, 4), start(2, 6)}, []uint64{api.MaxLabel, api.Never, 4}},
	} {
		if l := terms.Started(c.n, c.starts); !slices.Equal(l, c.want) {
			t.Errorf("chapter 9, at the start: %d: %v, want %v", i, l, c.want)
		}
	}
}

func TestWayKind(t *testing.T) {
	for kind, want := range map[int]api.Errno{
		api.KindSum: api.OK, api.KindHops: api.OK, api.KindMax: api.OK,
		api.KindLabel: api.ErrKind, 0: api.ErrKind, 5: api.ErrKind, -1: api.ErrKind, math.MaxInt: api.ErrKind, math.MinInt: api.ErrKind,
	} {
		if e := terms.WayKind(kind); e != want {
			t.Errorf("chapter 22, errors in their order: kind %d: %d, want %d", kind, e, want)
		}
	}
}

func TestJoin(t *testing.T) {
	for _, c := range []struct {
		kind       int
		a, b, want uint64
	}{
		{api.KindSum, 3, 4, 7},
		{api.KindHops, 3, 4, 7},
		{api.KindMax, 3, 4, 4},
		{api.KindMax, 4, 3, 4},
		{api.KindSum, 1 << 61, 1 << 61, api.MaxLabel},
		{api.KindMax, 0, 0, 0},
	} {
		if x := terms.Join(c.kind, c.a, c.b); x != c.want {
			t.Errorf("chapter 23, joined: kind %d: %d, want %d", c.kind, x, c.want)
		}
	}
}
