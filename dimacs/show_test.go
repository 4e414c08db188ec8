package dimacs_test

import (
	"math"
	"math/rand/v2"
	"slices"
	"strings"
	"testing"

	"wayfare/api"
	"wayfare/dimacs"
)

func edge(from, to int, weight uint64) api.Edge {
	return api.Edge{From: from, To: to, Weight: weight}
}

func TestShowGr(t *testing.T) {
	const heavy = api.MaxWeight + 1
	for _, c := range []struct {
		r    api.Roads
		want string
		e    api.Errno
	}{
		{api.Roads{N: 2, Edges: []api.Edge{edge(0, 1, 5)}}, "p sp 2 1\na 1 2 5\n", api.OK},
		{api.Roads{}, "p sp 0 0\n", api.OK},
		{api.Roads{Edges: []api.Edge{}}, "p sp 0 0\n", api.OK},
		{api.Roads{N: 1048576, Edges: []api.Edge{edge(1048575, 0, api.MaxWeight), edge(0, 0, 0), edge(0, 0, 0)}}, "p sp 1048576 3\na 1048576 1 4294967295\na 1 1 0\na 1 1 0\n", api.OK},
		{api.Roads{N: 2, Edges: []api.Edge{edge(0, 2, 5)}}, "", api.ErrVertex},
		{api.Roads{N: 2, Edges: []api.Edge{edge(2, 0, 5)}}, "", api.ErrVertex},
		{api.Roads{N: 2, Edges: []api.Edge{edge(0, -1, 5)}}, "", api.ErrVertex},
		{api.Roads{N: 2, Edges: []api.Edge{edge(-1, 0, 5)}}, "", api.ErrVertex},
		{api.Roads{N: 2, Edges: []api.Edge{edge(math.MinInt, math.MaxInt, 5)}}, "", api.ErrVertex},
		{api.Roads{N: 2, Edges: []api.Edge{edge(0, 2, heavy)}}, "", api.ErrVertex},
		{api.Roads{N: 2, Edges: []api.Edge{edge(-1, 0, heavy)}}, "", api.ErrVertex},
		{api.Roads{N: 2, Edges: []api.Edge{edge(0, 0, heavy), edge(0, 2, 0)}}, "", api.ErrWeight},
		{api.Roads{N: 2, Edges: []api.Edge{edge(0, 0, 1), edge(0, 2, 0), edge(0, 0, heavy)}}, "", api.ErrVertex},
		{api.Roads{N: 2, Edges: []api.Edge{edge(0, 0, math.MaxUint64)}}, "", api.ErrWeight},
		{api.Roads{Edges: []api.Edge{edge(0, 0, 0)}}, "", api.ErrVertex},
		{api.Roads{N: -1}, "", api.ErrSize},
		{api.Roads{N: math.MinInt}, "", api.ErrSize},
		{api.Roads{N: 1048577}, "", api.ErrSize},
		{api.Roads{N: -1, Edges: []api.Edge{edge(0, 2, heavy)}}, "", api.ErrSize},
		{api.Roads{N: 0, Edges: make([]api.Edge, api.MaxEdges+1)}, "", api.ErrSize},
	} {
		if s, e := dimacs.ShowGr(c.r); s != c.want || e != c.e {
			t.Errorf("D6: ShowGr of %d edges = %.60q, %d, want %q, %d", len(c.r.Edges), s, e, c.want, c.e)
		}
	}
	if s, e := dimacs.ShowGr(api.Roads{N: 1, Edges: make([]api.Edge, api.MaxEdges)}); e != api.OK || !strings.HasPrefix(s, "p sp 1 4194304\na 1 1 0\na 1 1 0\n") || len(s) != 15+8*api.MaxEdges {
		t.Errorf("D6: as many edges as there may be: %d", e)
	}
}

func TestShowCo(t *testing.T) {
	if s, e := dimacs.ShowCo(nil); s != "p aux sp co 0\n" || e != api.OK {
		t.Errorf("D6: ShowCo(nil) = %q, %d", s, e)
	}
	l := []api.Point{{X: math.MinInt64, Y: math.MaxInt64}, {}, {X: -1, Y: 1}}
	if s, e := dimacs.ShowCo(l); s != "p aux sp co 3\nv 1 -9223372036854775808 9223372036854775807\nv 2 0 0\nv 3 -1 1\n" || e != api.OK {
		t.Errorf("D6: ShowCo = %q, %d", s, e)
	}
	if s, e := dimacs.ShowCo(make([]api.Point, api.MaxVertices+1)); s != "" || e != api.ErrSize {
		t.Errorf("D6: ShowCo of too many = %d", e)
	}
}

func TestShowSs(t *testing.T) {
	for _, c := range []struct {
		l    []int
		want string
		e    api.Errno
	}{
		{nil, "p aux sp ss 0\n", api.OK},
		{[]int{1048575, 0, 0}, "p aux sp ss 3\ns 1048576\ns 1\ns 1\n", api.OK},
		{[]int{1048576}, "", api.ErrVertex},
		{[]int{0, -1}, "", api.ErrVertex},
		{[]int{math.MaxInt}, "", api.ErrVertex},
		{[]int{math.MinInt}, "", api.ErrVertex},
		{slices.Repeat([]int{-1}, api.MaxEdges+1), "", api.ErrSize},
	} {
		if s, e := dimacs.ShowSs(c.l); s != c.want || e != c.e {
			t.Errorf("D6: ShowSs of %d = %q, %d, want %q, %d", len(c.l), s, e, c.want, c.e)
		}
	}
	if s, e := dimacs.ShowSs(make([]int, api.MaxEdges)); e != api.OK || len(s) != 20+4*api.MaxEdges {
		t.Errorf("D6: as many sources as there may be: %d", e)
	}
}

func TestShowPairs(t *testing.T) {
	query := func(from, to int) api.Query { return api.Query{From: from, To: to} }
	for _, c := range []struct {
		l    []api.Query
		want string
		e    api.Errno
	}{
		{nil, "p aux sp p2p 0\n", api.OK},
		{[]api.Query{query(4, 0), query(1048575, 1048575)}, "p aux sp p2p 2\nq 5 1\nq 1048576 1048576\n", api.OK},
		{[]api.Query{query(0, 0), query(0, 1048576)}, "", api.ErrVertex},
		{[]api.Query{query(1048576, 0)}, "", api.ErrVertex},
		{[]api.Query{query(0, -1)}, "", api.ErrVertex},
		{[]api.Query{query(-1, 0)}, "", api.ErrVertex},
		{[]api.Query{query(math.MinInt, math.MaxInt)}, "", api.ErrVertex},
		{slices.Repeat([]api.Query{query(-1, 0)}, api.MaxEdges+1), "", api.ErrSize},
	} {
		if s, e := dimacs.ShowPairs(c.l); s != c.want || e != c.e {
			t.Errorf("D6: ShowPairs of %d = %q, %d, want %q, %d", len(c.l), s, e, c.want, c.e)
		}
	}
	if s, e := dimacs.ShowPairs(make([]api.Query, api.MaxEdges)); e != api.OK || len(s) != 21+6*api.MaxEdges {
		t.Errorf("D6: as many queries as there may be: %d", e)
	}
}

func TestThereAndBack(t *testing.T) {
	dice := rand.New(rand.NewPCG(7, 1))
	word := func() uint64 { return dice.Uint64() >> dice.IntN(64) }
	for range 500 {
		n := 1 + dice.IntN(9)
		r := api.Roads{N: n}
		l := make([]api.Point, n)
		var s []int
		var q []api.Query
		for i := range dice.IntN(9) {
			r.Edges = append(r.Edges, edge(dice.IntN(n), dice.IntN(n), word()&api.MaxWeight))
			s = append(s, dice.IntN(n))
			q = append(q, api.Query{From: dice.IntN(n), To: s[i]})
		}
		for i := range l {
			l[i] = api.Point{X: int64(word()), Y: -int64(word())}
		}
		text, _ := dimacs.ShowGr(r)
		if got, e, line, at := dimacs.ReadGr(text); got.N != n || !slices.Equal(got.Edges, r.Edges) || e != api.OK || line != 0 || at != 0 {
			t.Errorf("D7: %v as %q is %v, %d at %d, %d", r, text, got, e, line, at)
		}
		text, _ = dimacs.ShowCo(l)
		if got, e, line, at := dimacs.ReadCo(text); !slices.Equal(got, l) || e != api.OK || line != 0 || at != 0 {
			t.Errorf("D7: %v as %q is %v, %d at %d, %d", l, text, got, e, line, at)
		}
		text, _ = dimacs.ShowSs(s)
		if got, e, line, at := dimacs.ReadSs(text, n); !slices.Equal(got, s) || e != api.OK || line != 0 || at != 0 {
			t.Errorf("D7: %v as %q is %v, %d at %d, %d", s, text, got, e, line, at)
		}
		text, _ = dimacs.ShowPairs(q)
		if got, e, line, at := dimacs.ReadPairs(text, n); !slices.Equal(got, q) || e != api.OK || line != 0 || at != 0 {
			t.Errorf("D7: %v as %q is %v, %d at %d, %d", q, text, got, e, line, at)
		}
	}
}

func TestShownAgain(t *testing.T) {
	gr, e, _, _ := dimacs.ReadGr("c x\n\n p sp  3 2\r\nc y\na 3 1  7\t\n\na 1 1 0")
	if s, f := dimacs.ShowGr(gr); s != "p sp 3 2\na 3 1 7\na 1 1 0\n" || e != api.OK || f != api.OK {
		t.Errorf("D7: %q, %d, %d", s, e, f)
	}
	co, e, _, _ := dimacs.ReadCo("p aux sp co 2\nv 2 -1 1\n\tv 1  2 3\nc")
	if s, f := dimacs.ShowCo(co); s != "p aux sp co 2\nv 1 2 3\nv 2 -1 1\n" || e != api.OK || f != api.OK {
		t.Errorf("D7: %q, %d, %d", s, e, f)
	}
	ss, e, _, _ := dimacs.ReadSs("p  aux sp ss 2\n\ns 2\n s 1", 2)
	if s, f := dimacs.ShowSs(ss); s != "p aux sp ss 2\ns 2\ns 1\n" || e != api.OK || f != api.OK {
		t.Errorf("D7: %q, %d, %d", s, e, f)
	}
	p2p, e, _, _ := dimacs.ReadPairs("c\np aux sp\tp2p 1\r\nq  2 1 ", 2)
	if s, f := dimacs.ShowPairs(p2p); s != "p aux sp p2p 1\nq 2 1\n" || e != api.OK || f != api.OK {
		t.Errorf("D7: %q, %d, %d", s, e, f)
	}
}

func TestListsAreNotShared(t *testing.T) {
	list := []api.Edge{edge(0, 1, 5), edge(7, 7, 7)} // the second lies in the spare room of the first
	pairs := []api.Query{{From: 0, To: 1}, {From: 7, To: 7}}
	first, _ := dimacs.ShowGr(api.Roads{N: 2, Edges: list[:1]})
	second, _ := dimacs.ShowPairs(pairs[:1])
	if list[0] != edge(0, 1, 5) || list[1] != edge(7, 7, 7) || pairs[1] != (api.Query{From: 7, To: 7}) {
		t.Errorf("P0.4: a Show has changed its list: %v, %v", list, pairs)
	}
	list[0], pairs[0] = edge(9, 9, 9), api.Query{From: 9, To: 9}
	if first != "p sp 2 1\na 1 2 5\n" || second != "p aux sp p2p 1\nq 1 2\n" {
		t.Errorf("P0.4: a text has changed with its list: %q, %q", first, second)
	}
	one, _, _, _ := dimacs.ReadGr("p sp 2 1\na 1 2 5\n")
	one.Edges[0] = edge(9, 9, 9)
	two, _, _, _ := dimacs.ReadGr("p sp 2 1\na 1 2 5\n")
	if two.Edges[0] != edge(0, 1, 5) {
		t.Errorf("P0.5: a Read has changed with an answer of another: %v", two)
	}
}

// pieces are words and blanks of which texts are made that make no sense.
var pieces = []string{"p", "sp", "aux", "co", "ss", "p2p", "a", "v", "s", "q", "c", "0", "1", "2", "-1", "-", "03", "4294967296", "18446744073709551616", "\n", "\n", "\n", " ", " ", " ", "\t", "\r", "\x00", "\xff", "\u00a0"}

func TestTextsOfAnyBytes(t *testing.T) {
	dice := rand.New(rand.NewPCG(7, 2))
	heads := []string{"", "p sp 2 2\n", "p aux sp co 2\n", "p aux sp ss 2\n", "p aux sp p2p 2\n"}
	for range 20000 {
		text := heads[dice.IntN(len(heads))]
		for range dice.IntN(14) {
			text += pieces[dice.IntN(len(pieces))]
			if dice.IntN(2) == 0 {
				text += " "
			}
		}
		for _, read := range []func(string) answer{edges, points, sources(2), queries(2)} {
			got := read(text)
			lines := strings.Split(text, "\n")
			if got.e == api.OK {
				if got.line != 0 || got.at != 0 {
					t.Errorf("P0.7: %q: OK at %d, %d", text, got.line, got.at)
				}
			} else if got.line < 1 || got.line > len(lines) || got.at < 1 || got.at > len(lines[got.line-1])+1 || got.n != 0 || got.items != nil {
				t.Errorf("P0.1, P0.2, P0.7: %q = %v", text, got)
			}
		}
	}
}
