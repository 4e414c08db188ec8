package dimacs_test

import (
	"math"
	"runtime"
	"slices"
	"strings"
	"testing"

	"wayfare/api"
	"wayfare/dimacs"
)

// answer is what a Read tells of a text, whatever its kind: the items as rows of numbers.
type answer struct {
	n        int // vertices (edges alone)
	items    [][3]int
	e        api.Errno
	line, at int
}

func (a answer) same(b answer) bool {
	return a.n == b.n && slices.Equal(a.items, b.items) && a.e == b.e && a.line == b.line && a.at == b.at
}

// refused is an error at a place.
func refused(e api.Errno, line, at int) answer {
	return answer{e: e, line: line, at: at}
}

func edges(text string) answer {
	r, e, line, at := dimacs.ReadGr(text)
	out := answer{n: r.N, e: e, line: line, at: at}
	for _, x := range r.Edges {
		out.items = append(out.items, [3]int{x.From, x.To, int(x.Weight)})
	}
	return out
}

func points(text string) answer {
	l, e, line, at := dimacs.ReadCo(text)
	out := answer{e: e, line: line, at: at}
	for v, p := range l {
		out.items = append(out.items, [3]int{v, int(p.X), int(p.Y)})
	}
	return out
}

func sources(n int) func(string) answer {
	return func(text string) answer {
		l, e, line, at := dimacs.ReadSs(text, n)
		out := answer{e: e, line: line, at: at}
		for _, v := range l {
			out.items = append(out.items, [3]int{v})
		}
		return out
	}
}

func queries(n int) func(string) answer {
	return func(text string) answer {
		l, e, line, at := dimacs.ReadPairs(text, n)
		out := answer{e: e, line: line, at: at}
		for _, q := range l {
			out.items = append(out.items, [3]int{q.From, q.To})
		}
		return out
	}
}

type wanted struct {
	text string
	want answer
}

func wantAll(t *testing.T, rule string, read func(string) answer, cases []wanted) {
	t.Helper()
	for _, c := range cases {
		if got := read(c.text); !got.same(c.want) {
			t.Errorf("%s: %q = %v, want %v", rule, c.text, got, c.want)
		}
	}
}

func TestReadGr(t *testing.T) {
	wantAll(t, "D1", edges, []wanted{
		{"c a road\np sp 3 2\na 1 2 7\n\na 3 1 0", answer{n: 3, items: [][3]int{{0, 1, 7}, {2, 0, 0}}}},
		{"p sp 0 0\n", answer{}},
		{"p sp 0 0", answer{}},
		{"p sp 5 0", answer{n: 5}},
		{"p sp 1048576 0", answer{n: 1048576}},
		{"p sp 1048576 1\na 1048576 1 4294967295\n", answer{n: 1048576, items: [][3]int{{1048575, 0, 4294967295}}}},
		{"p sp 2 3\na 2 1 5\na 1 1 5\na 2 1 5\n", answer{n: 2, items: [][3]int{{1, 0, 5}, {0, 0, 5}, {1, 0, 5}}}},
		{"\n \t\r\n\r\n\tp \rsp\t \t1  1 \r\n\n a\t1\r1 0\t\n\n\n", answer{n: 1, items: [][3]int{{0, 0, 0}}}},
	})
}

func TestComments(t *testing.T) {
	wantAll(t, "D1: comments", edges, []wanted{
		{"c\nc \n c\nc p sp 9\n\tc\tx\np sp 1 1\nc a 9 9\na 1 1 1\nc", answer{n: 1, items: [][3]int{{0, 0, 1}}}},
		{"c \x00\xff\xfe\x80 \xc3 \u2028\u00a0\np sp 0 0\nc\x0bx", refused(api.ErrToken, 3, 1)},
		{"c \x00\xff\xfe\x80 \xc3 \u2028\u00a0\np sp 0 0\nc \x0bx", answer{}},
		{"cc\np sp 0 0", refused(api.ErrToken, 1, 1)},
		{"C\np sp 0 0", refused(api.ErrToken, 1, 1)},
		{"c\u00a0\np sp 0 0", refused(api.ErrToken, 1, 1)},
		{"p sp 1 1\na c 1 1", refused(api.ErrDigits, 2, 3)},
		{"p sp 1 1\na 1 1 1 c", refused(api.ErrLine, 2, 9)},
		{"p sp 1 1 c\na 1 1 1", refused(api.ErrLine, 1, 10)},
	})
}

func TestBytesAreNoBlanks(t *testing.T) {
	for _, odd := range []string{"\x00", "\x0b", "\x0c", "\x1f", "\x7f", "\x80", "\xff", "\u0085", "\u00a0", "\u2003", "\u2028", "\u3000", "\ufeff", "\ufffd", "\xc3", "\xe2\x80"} {
		wantAll(t, "D1: other bytes are parts of words", edges, []wanted{
			{odd + "p sp 0 0", refused(api.ErrToken, 1, 1)},
			{"p" + odd + "sp 0 0", refused(api.ErrToken, 1, 1)},
			{"p sp" + odd + "0 0", refused(api.ErrToken, 1, 3)},
			{"p sp 0" + odd + " 0", refused(api.ErrDigits, 1, 6)},
			{"p sp 0 0 " + odd, refused(api.ErrLine, 1, 10)},
			{"p sp 0 0\n" + odd, refused(api.ErrToken, 2, 1)},
			{"p sp 1 1\na 1 1 " + odd, refused(api.ErrDigits, 2, 7)},
			{"p sp 1 1\na 1 1 1 " + odd, refused(api.ErrLine, 2, 9)},
			{"c " + odd + " \np sp 1 1\n", refused(api.ErrList, 3, 1)},
			{"c " + odd + " \n" + odd, refused(api.ErrToken, 2, 1)},
			{"c " + odd, refused(api.ErrLine, 1, 3+len(odd))}, // places count bytes
		})
	}
}

func TestHeadOfEdges(t *testing.T) {
	wantAll(t, "D2", edges, []wanted{
		{"a 1 2 7", refused(api.ErrToken, 1, 1)},
		{"\n\n  a 1 2 7", refused(api.ErrToken, 3, 3)},
		{"P sp 1 1", refused(api.ErrToken, 1, 1)},
		{"pp sp 1 1", refused(api.ErrToken, 1, 1)},
		{"p", refused(api.ErrLine, 1, 2)},
		{"p\n", refused(api.ErrLine, 1, 2)},
		{" p \t\r\nx", refused(api.ErrLine, 1, 6)},
		{"p aux sp co 1", refused(api.ErrToken, 1, 3)},
		{"p SP 1 1", refused(api.ErrToken, 1, 3)},
		{"p s 1 1", refused(api.ErrToken, 1, 3)},
		{"p sp", refused(api.ErrLine, 1, 5)},
		{"p sp \n1 1", refused(api.ErrLine, 1, 6)},
		{"p sp x 1", refused(api.ErrDigits, 1, 6)},
		{"p sp -1 1", refused(api.ErrDigits, 1, 6)},
		{"p sp 03 1", refused(api.ErrDigits, 1, 6)},
		{"p sp 00 1", refused(api.ErrDigits, 1, 6)},
		{"p sp 3 03", refused(api.ErrDigits, 1, 8)},
		{"p sp 18446744073709551616 0", refused(api.ErrLong, 1, 6)},
		{"p sp 18446744073709551615 0", refused(api.ErrSize, 1, 6)},
		{"p sp 1048577 0", refused(api.ErrSize, 1, 6)},
		{"p sp 1048577", refused(api.ErrSize, 1, 6)},
		{"p sp 1048577 x", refused(api.ErrSize, 1, 6)},
		{"p sp 1", refused(api.ErrLine, 1, 7)},
		{"p sp 1   \n", refused(api.ErrLine, 1, 10)},
		{"p sp 1048576 4194305", refused(api.ErrSize, 1, 14)},
		{"p sp 1048576 4194304", refused(api.ErrList, 1, 21)},
		{"p sp 1 18446744073709551616", refused(api.ErrLong, 1, 8)},
		{"p sp 1 4194305 x", refused(api.ErrSize, 1, 8)},
		{"p sp 1 0 0", refused(api.ErrLine, 1, 10)},
		{"p sp 1 0 x y", refused(api.ErrLine, 1, 10)},
		{"p sp 1 0 0\nx", refused(api.ErrLine, 1, 10)},
		{"c\np sp x\np sp 1 0", refused(api.ErrDigits, 2, 6)},
	})
}

func TestHeadsOfTheOthers(t *testing.T) {
	for _, c := range []struct {
		read  func(string) answer
		name  string
		most  string
		above string
	}{
		{points, "co", "1048576", "1048577"},
		{sources(0), "ss", "4194304", "4194305"},
		{queries(0), "p2p", "4194304", "4194305"},
	} {
		long := 10 + len(c.name) // the byte of the number
		wantAll(t, "D2: "+c.name, c.read, []wanted{
			{"p aux sp " + c.name + " 0", answer{}},
			{"\r\np  aux\tsp\r" + c.name + " 0 \n\n", answer{}},
			{"v 1 1 1", refused(api.ErrToken, 1, 1)},
			{"x aux sp " + c.name + " 0", refused(api.ErrToken, 1, 1)},
			{"p sp 1 1", refused(api.ErrToken, 1, 3)},
			{"p aux", refused(api.ErrLine, 1, 6)},
			{"p aux co", refused(api.ErrToken, 1, 7)},
			{"p aux sp", refused(api.ErrLine, 1, 9)},
			{"p aux sp x 0", refused(api.ErrToken, 1, 10)},
			{"p aux sp " + c.name + "x 0", refused(api.ErrToken, 1, 10)},
			{"p aux sp " + c.name, refused(api.ErrLine, 1, long)},
			{"p aux sp " + c.name + " x", refused(api.ErrDigits, 1, long+1)},
			{"p aux sp " + c.name + " -0", refused(api.ErrDigits, 1, long+1)},
			{"p aux sp " + c.name + " 18446744073709551616", refused(api.ErrLong, 1, long+1)},
			{"p aux sp " + c.name + " " + c.above, refused(api.ErrSize, 1, long+1)},
			{"p aux sp " + c.name + " " + c.most, refused(api.ErrList, 1, long+8)},
			{"p aux sp " + c.name + " 0 0", refused(api.ErrLine, 1, long+3)},
			{"", refused(api.ErrLine, 1, 1)},
		})
	}
	wantAll(t, "D2: one kind is not another", points, []wanted{{"p aux sp ss 0", refused(api.ErrToken, 1, 10)}, {"p aux sp p2p 0", refused(api.ErrToken, 1, 10)}})
	wantAll(t, "D2: one kind is not another", sources(1), []wanted{{"p aux sp co 0", refused(api.ErrToken, 1, 10)}, {"p aux sp p2p 0", refused(api.ErrToken, 1, 10)}})
	wantAll(t, "D2: one kind is not another", queries(1), []wanted{{"p aux sp co 0", refused(api.ErrToken, 1, 10)}, {"p aux sp ss 0", refused(api.ErrToken, 1, 10)}})
}

func TestItemsOfEdges(t *testing.T) {
	const head = "p sp 3 1\n"
	wantAll(t, "D3", edges, []wanted{
		{head + "p sp 3 1", refused(api.ErrToken, 2, 1)},
		{head + "v 1 2 3", refused(api.ErrToken, 2, 1)},
		{head + "  A 1 2 3", refused(api.ErrToken, 2, 3)},
		{head + "aa 1 2 3", refused(api.ErrToken, 2, 1)},
		{head + "a", refused(api.ErrLine, 2, 2)},
		{head + "a \t\n1", refused(api.ErrLine, 2, 4)},
		{head + "a x", refused(api.ErrDigits, 2, 3)},
		{head + "a 01 1 1", refused(api.ErrDigits, 2, 3)},
		{head + "a -1 1 1", refused(api.ErrDigits, 2, 3)},
		{head + "a 18446744073709551616 1 1", refused(api.ErrLong, 2, 3)},
		{head + "a 18446744073709551615 1 1", refused(api.ErrVertex, 2, 3)},
		{head + "a 0 1 7", refused(api.ErrVertex, 2, 3)},
		{head + "a 4 1 7", refused(api.ErrVertex, 2, 3)},
		{head + "a 4", refused(api.ErrVertex, 2, 3)},
		{head + "a 1", refused(api.ErrLine, 2, 4)},
		{head + "a 1 0 7", refused(api.ErrVertex, 2, 5)},
		{head + "a 1 4 7", refused(api.ErrVertex, 2, 5)},
		{head + "a 1 x 7", refused(api.ErrDigits, 2, 5)},
		{head + "a 1 18446744073709551616 7", refused(api.ErrLong, 2, 5)},
		{head + "a 1 2", refused(api.ErrLine, 2, 6)},
		{head + "a 1 2  \r\n", refused(api.ErrLine, 2, 9)},
		{head + "a 1 2 4294967296", refused(api.ErrWeight, 2, 7)},
		{head + "a 1 2 18446744073709551615", refused(api.ErrWeight, 2, 7)},
		{head + "a 1 2 18446744073709551616", refused(api.ErrLong, 2, 7)},
		{head + "a 1 2 -1", refused(api.ErrDigits, 2, 7)},
		{head + "a 1 2 00", refused(api.ErrDigits, 2, 7)},
		{head + "a 1 2 4294967296 9", refused(api.ErrWeight, 2, 7)},
		{head + "a 1 2 7 8", refused(api.ErrLine, 2, 9)},
		{head + "a 1 2 7 8 9", refused(api.ErrLine, 2, 9)},
		{head + "a 1 2 7\na 9", refused(api.ErrList, 3, 1)},
		{head + "a 1 2 7\n\n  a 1 2 7", refused(api.ErrList, 4, 3)},
		{head + "a 1 2 7\nx", refused(api.ErrToken, 3, 1)},
		{head + "a 1 2 7\np sp 3 1", refused(api.ErrToken, 3, 1)},
		{"p sp 3 0\na 1 2 7", refused(api.ErrList, 2, 1)},
		{"p sp 0 1\na 1 1 7", refused(api.ErrVertex, 2, 3)},
		{"p sp 3 2\na 1 2 7\na 0 0 x", refused(api.ErrVertex, 3, 3)},
		{"p sp 3 2\na 1 2 7 a 1 2 7\nx", refused(api.ErrLine, 2, 9)},
	})
}

func TestReadCo(t *testing.T) {
	const head = "p aux sp co 2\n"
	wantAll(t, "D1, D3: points", points, []wanted{
		{head + "v 2 -5 0\nv 1 3 4", answer{items: [][3]int{{0, 3, 4}, {1, -5, 0}}}},
		{head + "v 1 0 -1\nc\n\nv 2 0 0\n", answer{items: [][3]int{{0, 0, -1}, {1, 0, 0}}}},
		{head + "v 1 -9223372036854775808 9223372036854775807\nv 2 9223372036854775807 -9223372036854775808", answer{items: [][3]int{{0, math.MinInt, math.MaxInt}, {1, math.MaxInt, math.MinInt}}}},
		{head + "v 1 -9223372036854775809 0", refused(api.ErrLong, 2, 5)},
		{head + "v 1 0 -9223372036854775809", refused(api.ErrLong, 2, 7)},
		{head + "v 1 9223372036854775808 0", refused(api.ErrLong, 2, 5)},
		{head + "v 1 0 9223372036854775808", refused(api.ErrLong, 2, 7)},
		{head + "v 1 0 18446744073709551615", refused(api.ErrLong, 2, 7)},
		{head + "v 1 0 18446744073709551616", refused(api.ErrLong, 2, 7)},
		{head + "v 1 0 -18446744073709551615", refused(api.ErrLong, 2, 7)},
		{head + "v 1 0 -18446744073709551616", refused(api.ErrLong, 2, 7)},
		{head + "v 2 -0 0", refused(api.ErrDigits, 2, 5)},
		{head + "v 2 0 -0", refused(api.ErrDigits, 2, 7)},
		{head + "v 2 00 0", refused(api.ErrDigits, 2, 5)},
		{head + "v 2 -01 0", refused(api.ErrDigits, 2, 5)},
		{head + "v 2 - 0", refused(api.ErrDigits, 2, 5)},
		{head + "v 2 0 -", refused(api.ErrDigits, 2, 7)},
		{head + "v 2 --1 0", refused(api.ErrDigits, 2, 5)},
		{head + "v 2 +1 0", refused(api.ErrDigits, 2, 5)},
		{head + "v 2 1- 0", refused(api.ErrDigits, 2, 5)},
		{head + "v 2 -x 0", refused(api.ErrDigits, 2, 5)},
		{head + "v 2 1 1\nv 2 1 1", refused(api.ErrName, 3, 3)},
		{head + "v 2 1 1\nv 2 x x", refused(api.ErrName, 3, 3)},
		{head + "v 1 1 1\nv 1", refused(api.ErrName, 3, 3)},
		{head + "v 0 1 1", refused(api.ErrVertex, 2, 3)},
		{head + "v 3 1 1", refused(api.ErrVertex, 2, 3)},
		{head + "v -1 1 1", refused(api.ErrDigits, 2, 3)},
		{head + "v", refused(api.ErrLine, 2, 2)},
		{head + "v 1", refused(api.ErrLine, 2, 4)},
		{head + "v 1 1", refused(api.ErrLine, 2, 6)},
		{head + "v 1 1 1 1", refused(api.ErrLine, 2, 9)},
		{head + "v 1 1 1\nv 2 1 1\nv 2 1 1", refused(api.ErrList, 4, 1)},
		{head + "v 1 1 1\nv 2 1 1\nw", refused(api.ErrToken, 4, 1)},
		{head + "a 1 1 1", refused(api.ErrToken, 2, 1)},
		{head + "v 1 1 1\n", refused(api.ErrList, 3, 1)},
		{head + "v 2 1 1", refused(api.ErrList, 2, 8)},
		{"p aux sp co 0\nv 1 1 1", refused(api.ErrList, 2, 1)},
	})
}

func TestReadSs(t *testing.T) {
	wantAll(t, "D1, D3: sources", sources(4), []wanted{
		{"p aux sp ss 2\ns 1\ns 4", answer{items: [][3]int{{0}, {3}}}},
		{"p aux sp ss 3\ns 4\ns 4\ns 1\n", answer{items: [][3]int{{3}, {3}, {0}}}},
		{"p aux sp ss 1\ns 5", refused(api.ErrVertex, 2, 3)},
		{"p aux sp ss 1\ns 0", refused(api.ErrVertex, 2, 3)},
		{"p aux sp ss 1\ns x", refused(api.ErrDigits, 2, 3)},
		{"p aux sp ss 1\ns", refused(api.ErrLine, 2, 2)},
		{"p aux sp ss 1\ns 1 1", refused(api.ErrLine, 2, 5)},
		{"p aux sp ss 1\nq 1", refused(api.ErrToken, 2, 1)},
		{"p aux sp ss 1\ns 1\ns 9", refused(api.ErrList, 3, 1)},
		{"p aux sp ss 2\ns 1\n\n ", refused(api.ErrList, 4, 2)},
	})
	wantAll(t, "D3: sources of no vertices", sources(0), []wanted{{"p aux sp ss 0", answer{}}, {"p aux sp ss 1\ns 1", refused(api.ErrVertex, 2, 3)}})
	wantAll(t, "D3: sources of all vertices", sources(api.MaxVertices), []wanted{
		{"p aux sp ss 1\ns 1048576", answer{items: [][3]int{{1048575}}}},
		{"p aux sp ss 1\ns 1048577", refused(api.ErrVertex, 2, 3)},
	})
}

func TestReadPairs(t *testing.T) {
	wantAll(t, "D1, D3: queries", queries(4), []wanted{
		{"p aux sp p2p 1\nq 1 1", answer{items: [][3]int{{0, 0}}}},
		{"p aux sp p2p 3\nq 4 1\nq 4 1\nq 2 3\n", answer{items: [][3]int{{3, 0}, {3, 0}, {1, 2}}}},
		{"p aux sp p2p 1\nq 5 1", refused(api.ErrVertex, 2, 3)},
		{"p aux sp p2p 1\nq 1 5", refused(api.ErrVertex, 2, 5)},
		{"p aux sp p2p 1\nq 0 x", refused(api.ErrVertex, 2, 3)},
		{"p aux sp p2p 1\nq 1 0", refused(api.ErrVertex, 2, 5)},
		{"p aux sp p2p 1\nq 1 x", refused(api.ErrDigits, 2, 5)},
		{"p aux sp p2p 1\nq 1", refused(api.ErrLine, 2, 4)},
		{"p aux sp p2p 1\nq 1 1 1", refused(api.ErrLine, 2, 7)},
		{"p aux sp p2p 1\ns 1", refused(api.ErrToken, 2, 1)},
		{"p aux sp p2p 1\nq 1 1\nq 9 9", refused(api.ErrList, 3, 1)},
		{"p aux sp p2p 1\n", refused(api.ErrList, 2, 1)},
	})
}

func TestEnds(t *testing.T) {
	wantAll(t, "D4", edges, []wanted{
		{"", refused(api.ErrLine, 1, 1)},
		{"\n", refused(api.ErrLine, 2, 1)},
		{"  ", refused(api.ErrLine, 1, 3)},
		{"c\n", refused(api.ErrLine, 2, 1)},
		{"c no head", refused(api.ErrLine, 1, 10)},
		{"c\n\n\r\n c \xff\xff", refused(api.ErrLine, 4, 6)},
		{"p sp 3 2\na 1 2 7\n", refused(api.ErrList, 3, 1)},
		{"p sp 3 2\na 1 2 7", refused(api.ErrList, 2, 8)},
		{"p sp 3 2\na 1 2 7  ", refused(api.ErrList, 2, 10)},
		{"p sp 3 2\na 1 2 7\nc and", refused(api.ErrList, 3, 6)},
		{"p sp 3 2\na 1 2 7\n\n\n", refused(api.ErrList, 5, 1)},
		{"p sp 3 1", refused(api.ErrList, 1, 9)},
	})
}

func TestVerticesThatMayNotBe(t *testing.T) {
	for _, n := range []int{-1, math.MinInt, api.MaxVertices + 1, math.MaxInt} {
		for _, text := range []string{"", "x", "p aux sp ss 1\ns 9", "p aux sp p2p 1\nq 9 9", "p aux sp ss 0", "p aux sp p2p 0"} {
			wantAll(t, "D5: ReadSs", sources(n), []wanted{{text, refused(api.ErrSize, 0, 0)}})
			wantAll(t, "D5: ReadPairs", queries(n), []wanted{{text, refused(api.ErrSize, 0, 0)}})
		}
	}
}

func TestRefusedTellsNothing(t *testing.T) {
	if r, _, _, _ := dimacs.ReadGr("p sp 3 2\na 1 2 7\n"); r.N != 0 || r.Edges != nil {
		t.Errorf("P0.2: ReadGr: %v", r)
	}
	if l, _, _, _ := dimacs.ReadCo("p aux sp co 2\nv 1 1 1\n"); l != nil {
		t.Errorf("P0.2: ReadCo: %v", l)
	}
	if l, _, _, _ := dimacs.ReadSs("p aux sp ss 2\ns 1\n", 1); l != nil {
		t.Errorf("P0.2: ReadSs: %v", l)
	}
	if l, _, _, _ := dimacs.ReadPairs("p aux sp p2p 2\nq 1 1\n", 1); l != nil {
		t.Errorf("P0.2: ReadPairs: %v", l)
	}
}

func TestShortTextsMakeNoLongLists(t *testing.T) {
	for name, read := range map[string]func(){
		"ReadGr":    func() { dimacs.ReadGr("p sp 1048576 4194304\na 1048576 1 1") },
		"ReadCo":    func() { dimacs.ReadCo("p aux sp co 1048576\nv 1048576 1 1") },
		"ReadSs":    func() { dimacs.ReadSs("p aux sp ss 4194304\ns 1048576", api.MaxVertices) },
		"ReadPairs": func() { dimacs.ReadPairs("p aux sp p2p 4194304\nq 1 1048576", api.MaxVertices) },
	} {
		var ahead, behind runtime.MemStats
		runtime.ReadMemStats(&ahead)
		read()
		runtime.ReadMemStats(&behind)
		if n := behind.TotalAlloc - ahead.TotalAlloc; n > 1<<16 {
			t.Errorf("P0.9: %s of a line takes %d bytes", name, n)
		}
	}
}

func TestAsManyAsThereMayBe(t *testing.T) {
	text := "p aux sp ss 4194304\n" + strings.Repeat("s 1\n", api.MaxEdges)
	if l, e, line, at := dimacs.ReadSs(text, 1); len(l) != api.MaxEdges || e != api.OK || line != 0 || at != 0 {
		t.Errorf("D2: as many sources as there may be: %d at %d, %d", e, line, at)
	}
	if _, e, line, at := dimacs.ReadSs(text+"s 1", 1); e != api.ErrList || line != api.MaxEdges+2 || at != 1 {
		t.Errorf("D3: one source more: %d at %d, %d", e, line, at)
	}
	l := make([]api.Point, api.MaxVertices)
	l[0].X, l[api.MaxVertices-1].Y = -7, 7
	text, e := dimacs.ShowCo(l)
	if e != api.OK {
		t.Fatal(e)
	}
	if got, e, _, _ := dimacs.ReadCo(text); e != api.OK || !slices.Equal(got, l) {
		t.Errorf("D7: as many points as there may be: %d", e)
	}
}
