package seek_test

import (
	"math"
	"math/rand/v2"
	"reflect"
	"slices"
	"testing"

	"wayfare/api"
	"wayfare/seek"
)

func TestMarksOfTheExamples(t *testing.T) {
	g := small()
	m := mark(t, g, 2)
	if !reflect.DeepEqual(m, api.Marks{At: []int{2}, From: [][]uint64{{never, 2, 0, never}}, To: [][]uint64{{1, 0, 0, never}}}) {
		t.Errorf("S3: %v", m)
	}
	for _, c := range []struct {
		from, to int
		want     uint64
	}{{0, 1, 1}, {2, 0, never}, {3, 1, never}, {0, 3, 0}, {0, 2, 1}, {2, 1, 2}, {1, 2, 0}, {3, 3, 0}, {2, 2, 0}} {
		if x, e := seek.Bound(g, m, c.from, c.to); x != c.want || e != api.OK {
			t.Errorf("S5: Bound(%d, %d) = %d, %d, want %d", c.from, c.to, x, e, c.want)
		}
	}
	for _, c := range []struct {
		first, count int
		want         []int
		e            api.Errno
	}{
		{0, 4, []int{0, 3, 1}, api.OK},
		{0, api.MaxMarks, []int{0, 3, 1}, api.OK},
		{0, 2, []int{0, 3}, api.OK},
		{0, 1, []int{0}, api.OK},
		{3, 64, []int{3, 0, 1}, api.OK},
		{1, 3, []int{1, 0, 3}, api.OK},
		{0, 0, nil, api.ErrSize},
		{0, -1, nil, api.ErrSize},
		{0, math.MinInt, nil, api.ErrSize},
		{0, api.MaxMarks + 1, nil, api.ErrSize},
		{0, math.MaxInt, nil, api.ErrSize},
		{4, 1, nil, api.ErrVertex},
		{-1, 0, nil, api.ErrVertex},
		{4, api.MaxMarks + 1, nil, api.ErrVertex},
	} {
		if l, e := seek.Far(g, c.first, c.count); !slices.Equal(l, c.want) || e != c.e {
			t.Errorf("S7: Far(%d, %d) = %v, %d, want %v, %d", c.first, c.count, l, e, c.want, c.e)
		}
	}
	if l, e := seek.Far(build(1, edge(0, 0, 3)), 0, 5); !slices.Equal(l, []int{0}) || e != api.OK {
		t.Errorf("S7: one vertex: %v, %d", l, e)
	}
	if l, e := seek.Far(build(3), 1, 5); !slices.Equal(l, []int{1, 0, 2}) || e != api.OK {
		t.Errorf("S7: no edges: %v, %d", l, e)
	}
}

func TestMarkRefuses(t *testing.T) {
	g := small()
	many := make([]int, api.MaxMarks+1)
	wrongAtTheEnd := slices.Clone(many)
	wrongAtTheEnd[api.MaxMarks] = 4
	for _, c := range []struct {
		at []int
		e  api.Errno
	}{
		{[]int{0, 4}, api.ErrVertex},
		{[]int{-1}, api.ErrVertex},
		{[]int{math.MaxInt, math.MinInt}, api.ErrVertex},
		{many, api.ErrSize},
		{wrongAtTheEnd, api.ErrVertex},
	} {
		if m, e := seek.Mark(g, c.at); m.At != nil || m.From != nil || m.To != nil || e != c.e {
			t.Errorf("S3: Mark(%v) = %v, %d, want %d", c.at, m, e, c.e)
		}
	}
	if m := mark(t, g); len(m.At)+len(m.From)+len(m.To) != 0 {
		t.Errorf("S3: no landmarks: %v", m)
	}
	m := mark(t, g, many[1:]...)
	if len(m.At) != api.MaxMarks || !slices.Equal(m.From[63], []uint64{0, 3, 1, never}) {
		t.Errorf("S3: one vertex as often as may be: %v", m)
	}
	if e, at := seek.Check(g, m); e != api.OK || at != 0 {
		t.Errorf("S4: %d, %d", e, at)
	}
	if m, e := seek.Mark(build(0), nil); len(m.At) != 0 || e != api.OK {
		t.Errorf("S3: no vertices: %v, %d", m, e)
	}
}

func TestCheck(t *testing.T) {
	g := small()
	for _, c := range []struct {
		what string
		turn func(m *api.Marks)
		e    api.Errno
		at   int
	}{
		{"as they are", func(m *api.Marks) {}, api.OK, 0},
		{"none", func(m *api.Marks) { *m = api.Marks{} }, api.OK, 0},
		{"a distance, the chapter's", func(m *api.Marks) { m.To[0][2] = 1 }, api.ErrProof, 0},
		{"one more", func(m *api.Marks) { m.From[1][1]++ }, api.ErrProof, 1},
		{"one less", func(m *api.Marks) { m.From[1][1]-- }, api.ErrProof, 1},
		{"not reached", func(m *api.Marks) { m.From[1][1] = never }, api.ErrProof, 1},
		{"reached", func(m *api.Marks) { m.From[1][3] = never - 1 }, api.ErrProof, 1},
		{"reached with 0", func(m *api.Marks) { m.To[1][3] = 0 }, api.ErrProof, 1},
		{"the landmark itself", func(m *api.Marks) { m.From[0][2] = never }, api.ErrProof, 0},
		{"all of them as much more", func(m *api.Marks) { m.From[1] = []uint64{1, 4, 2, never} }, api.ErrProof, 1},
		{"numbers that wrap round", func(m *api.Marks) { m.From[1] = []uint64{0, 3, 1, never - 1} }, api.ErrProof, 1},
		{"the two changed round", func(m *api.Marks) { m.From, m.To = m.To, m.From }, api.ErrProof, 0},
		{"another vertex", func(m *api.Marks) { m.At[1] = 3 }, api.ErrProof, 1},
		{"no vertex", func(m *api.Marks) { m.At[1] = 4; m.From[1] = nil }, api.ErrVertex, 1},
		{"no vertex, the least int", func(m *api.Marks) { m.At[0] = math.MinInt }, api.ErrVertex, 0},
		{"no vertex behind a wrong distance", func(m *api.Marks) { m.At[1] = 4; m.To[0][0] = 7 }, api.ErrProof, 0},
		{"a short row", func(m *api.Marks) { m.To[1] = m.To[1][:3] }, api.ErrList, 1},
		{"a long row", func(m *api.Marks) { m.From[0] = append(m.From[0], never) }, api.ErrList, 0},
		{"no row, and a wrong one", func(m *api.Marks) { m.From[0] = nil; m.To[0][0] = 9 }, api.ErrList, 0},
		{"a row too few", func(m *api.Marks) { m.To = m.To[:1]; m.At[0] = 9 }, api.ErrList, 0},
		{"a row too many", func(m *api.Marks) { m.From = append(m.From, nil) }, api.ErrList, 0},
		{"a landmark too few", func(m *api.Marks) { m.At = m.At[:1]; m.From[0][0] = 9 }, api.ErrList, 0},
		{"rows and no landmarks", func(m *api.Marks) { m.At = nil }, api.ErrList, 0},
		{"too many", func(m *api.Marks) {
			n := api.MaxMarks + 1
			m.At, m.From, m.To = slices.Repeat([]int{9}, n), make([][]uint64, n), make([][]uint64, n)
		}, api.ErrSize, 0},
		{"too many, and a row too few", func(m *api.Marks) {
			n := api.MaxMarks + 1
			m.At, m.From, m.To = make([]int, n), make([][]uint64, n), make([][]uint64, n-1)
		}, api.ErrList, 0},
		{"the chapter's third vertex", func(m *api.Marks) { m.At[1], m.From[1], m.To[1] = 4, nil, nil }, api.ErrVertex, 1},
	} {
		m := mark(t, g, 2, 0)
		c.turn(&m)
		if e, at := seek.Check(g, m); e != c.e || at != c.at {
			t.Errorf("S4: %s: %d at %d, want %d at %d", c.what, e, at, c.e, c.at)
		}
		if x, e := seek.Bound(g, m, 0, 1); e != c.e || e != api.OK && x != 0 {
			t.Errorf("S5: %s: %d, %d, want %d", c.what, x, e, c.e)
		}
		if w, e := seek.Guided(g, m, 0, 1); e != c.e || e != api.OK && (w.Label != 0 || w.Edges != nil) {
			t.Errorf("S6: %s: %v, %d, want %d", c.what, w, e, c.e)
		}
	}
}

// TestCheckByChance: S4 of marks of which a number was changed: right just if they are what Mark tells.
func TestCheckByChance(t *testing.T) {
	someOf(3000, 2, func(dice *rand.Rand, g api.Graph) {
		far := distances(g)
		at := make([]int, 1+dice.IntN(3))
		for i := range at {
			at[i] = dice.IntN(g.N)
		}
		m := mark(t, g, at...)
		right := marksByWords(far, at)
		if !reflect.DeepEqual(m, right) {
			t.Fatalf("S3: %v, %v: %v, want %v", g, at, m, right)
		}
		for range 8 {
			i, v := dice.IntN(len(at)), dice.IntN(g.N)
			row := m.From[i]
			if dice.IntN(2) == 0 {
				row = m.To[i]
			}
			was := row[v]
			row[v] = []uint64{was + 1, was - 1, never, never - 1, 0, dice.Uint64N(9), was}[dice.IntN(7)]
			want, place := api.OK, 0
			if row[v] != was {
				want, place = api.ErrProof, i
			}
			if e, at := seek.Check(g, m); e != want || at != place {
				t.Fatalf("S4: %v, %v: %d, %d, want %d, %d", g, m, e, at, want, place)
			}
			row[v] = was
		}
	})
}

// TestCheckOfCircles: S4: labels that hold one another up round a circle of no weight are no distances.
func TestCheckOfCircles(t *testing.T) {
	g := build(4, edge(0, 1, 9), edge(1, 2, 0), edge(2, 1, 0), edge(3, 3, 0))
	for _, c := range []struct {
		from []uint64
		e    api.Errno
	}{
		{[]uint64{0, 9, 9, never}, api.OK},
		{[]uint64{0, 4, 4, never}, api.ErrProof},
		{[]uint64{0, 9, 9, 5}, api.ErrProof},
		{[]uint64{0, 9, 9, 0}, api.ErrProof},
		{[]uint64{0, 9, 9, never - 1}, api.ErrProof},
		{[]uint64{0, never, never, never}, api.ErrProof},
	} {
		m := mark(t, g, 0)
		m.From[0] = c.from
		if e, at := seek.Check(g, m); e != c.e || at != 0 {
			t.Errorf("S4: %v: %d, %d, want %d", c.from, e, at, c.e)
		}
	}
}

// TestBoundsByChance: S5, S9, S10.
func TestBoundsByChance(t *testing.T) {
	someOf(400, 3, func(dice *rand.Rand, g api.Graph) {
		far := distances(g)
		var at []int
		var less [][]uint64 // bounds of fewer landmarks
		for range 4 {
			m := marksByWords(far, at)
			bounds := allBounds(t, g, m)
			wantBounds(t, g, m, far, bounds)
			for from := range less {
				for to := range less[from] {
					if less[from][to] > bounds[from][to] {
						t.Fatalf("S10: %v, %v, from %d to %d: %d, ahead %d", g, at, from, to, bounds[from][to], less[from][to])
					}
				}
			}
			less = bounds
			at = slices.Insert(at, dice.IntN(len(at)+1), dice.IntN(g.N))
		}
	})
}

func allBounds(t *testing.T, g api.Graph, m api.Marks) [][]uint64 {
	t.Helper()
	out := make([][]uint64, g.N)
	for from := range g.N {
		out[from] = make([]uint64, g.N)
		for to := range g.N {
			x, e := seek.Bound(g, m, from, to)
			if want := boundByWords(m, from, to); x != want || e != api.OK {
				t.Fatalf("S5: %v, %v, from %d to %d: %d, %d, want %d", g, m, from, to, x, e, want)
			}
			out[from][to] = x
		}
	}
	return out
}

// wantBounds looks at S9.
func wantBounds(t *testing.T, g api.Graph, m api.Marks, far, bounds [][]uint64) {
	t.Helper()
	for from := range g.N {
		for to, x := range bounds[from] {
			landmark := slices.Contains(m.At, from) || slices.Contains(m.At, to)
			if x > far[from][to] || x == never && far[from][to] != never || landmark && x != far[from][to] {
				t.Fatalf("S9: %v, %v, from %d to %d: %d, the distance is %d", g, m.At, from, to, x, far[from][to])
			}
			for place := g.Start[from]; place < g.Start[from+1]; place++ {
				if rest := bounds[g.To[place]][to]; rest != never && (x == never || x > rest+g.Weight[place]) {
					t.Fatalf("S9: %v, %v, along the edge %d towards %d: %d, and then %d", g, m.At, place, to, x, rest)
				}
			}
		}
	}
}

// TestFarByChance: S7.
func TestFarByChance(t *testing.T) {
	someOf(2000, 4, func(dice *rand.Rand, g api.Graph) {
		first, count := dice.IntN(g.N), 1+dice.IntN(g.N+3)
		want := farByWords(distances(g), first, count)
		if l, e := seek.Far(g, first, count); !slices.Equal(l, want) || e != api.OK {
			t.Fatalf("S7: %v: Far(%d, %d) = %v, %d, want %v", g, first, count, l, e, want)
		}
	})
}
