package pack_test

import (
	"bytes"
	"math"
	"math/rand/v2"
	"slices"
	"strings"
	"testing"

	"wayfare/api"
	"wayfare/octet"
	"wayfare/pack"
)

// example is the chapter's file.
func example() api.File {
	return api.File{
		Name:    "g",
		Graph:   api.Graph{N: 2, Start: []int{0, 2, 2}, To: []int{1, 0}, Weight: []uint64{300, 0}},
		Sources: []int{1},
	}
}

// full is a file that has everything.
func full() api.File {
	return api.File{
		Name:    "a\x00\xffb",
		Graph:   api.Graph{N: 3, Start: []int{0, 2, 2, 5}, To: []int{2, 1, 0, 2, 2}, Weight: []uint64{5, 7, api.MaxWeight, 0, 128}},
		Points:  []api.Point{{X: -1, Y: math.MaxInt64}, {X: 1, Y: math.MinInt64}, {X: math.MinInt64, Y: -1}},
		Sources: []int{2, 0, 2},
	}
}

func same(a, b api.File) bool {
	return a.Name == b.Name && a.Graph.N == b.Graph.N && slices.Equal(a.Graph.Start, b.Graph.Start) && slices.Equal(a.Graph.To, b.Graph.To) &&
		slices.Equal(a.Graph.Weight, b.Graph.Weight) && slices.Equal(a.Points, b.Points) && slices.Equal(a.Sources, b.Sources)
}

func nothing(f api.File) bool {
	return same(f, api.File{}) && f.Graph.Start == nil && f.Graph.To == nil && f.Graph.Weight == nil && f.Points == nil && f.Sources == nil
}

const opening = "WAY\r\n\x1a\n\x00\x01\x00"

// word4 is a word of four bytes.
func word4(v uint32) string {
	return string([]byte{byte(v), byte(v >> 8), byte(v >> 16), byte(v >> 24)})
}

// section is a section with right sums, of any tag and content.
func section(tag, content string) string {
	head := tag + word4(uint32(len(content)))
	return head + word4(octet.Crc([]byte(head))) + content + word4(octet.Crc([]byte(content)))
}

// container is sections, each a tag and a content, one behind the other.
func container(sections ...string) []byte {
	out := opening
	for _, s := range sections {
		out += section(s[:4], s[4:])
	}
	return []byte(out)
}

func encoded(t *testing.T, f api.File) []byte {
	t.Helper()
	b, e := pack.Encode(f)
	if e != api.OK {
		t.Fatalf("K1: Encode(%v): %d", f, e)
	}
	return b
}

func TestExample(t *testing.T) {
	b := encoded(t, example())
	want := container("HEAD\x02\x02\x01g", "ROWS\x02\x00", "ENDS\x02\x01", "WGTS\xac\x02\x00", "FROM\x01\x01", "DONE")
	if len(b) != 119 || !bytes.Equal(b, want) || !bytes.Equal(b[:10], []byte{0x57, 0x41, 0x59, 0x0D, 0x0A, 0x1A, 0x0A, 0x00, 0x01, 0x00}) {
		t.Errorf("the container: %x, want %x", b, want)
	}
	if octet.Crc([]byte("123456789")) != 0xE3069283 {
		t.Error("the sums of these tests are others")
	}
	if f, e, at := pack.Decode(b); e != api.OK || at != 0 || !same(f, example()) {
		t.Errorf("K2: %v, %d, %d", f, e, at)
	}
}

func TestContents(t *testing.T) {
	ones := strings.Repeat("\xff", 9) + "\x01"
	for _, c := range []struct {
		name string
		f    api.File
		want []string
	}{
		{"no vertices", api.File{Graph: api.Graph{Start: []int{0}}}, []string{"HEAD\x00\x00\x00", "ROWS", "ENDS", "WGTS", "DONE"}},
		{"empty lists", api.File{Graph: api.Graph{Start: []int{0}, To: []int{}, Weight: []uint64{}}, Points: []api.Point{}, Sources: []int{}}, []string{"HEAD\x00\x00\x00", "ROWS", "ENDS", "WGTS", "DONE"}},
		{"no edges", api.File{Graph: api.Graph{N: 2, Start: []int{0, 0, 0}}}, []string{"HEAD\x02\x00\x00", "ROWS\x00\x00", "ENDS", "WGTS", "DONE"}},
		// 2-0, 1-2 | | 0-2, 2-0, 2-2; differences of points modulo 2^64
		{"everything", full(), []string{"HEAD\x03\x05\x04a\x00\xffb", "ROWS\x02\x00\x03", "ENDS\x04\x01\x03\x04\x00", "WGTS\x05\x07\xff\xff\xff\xff\x0f\x00\x80\x01",
			"SPOT\x01" + "\xfe" + ones[1:] + "\x04" + "\x02" + "\xfe" + ones[1:] + "\xfe" + ones[1:], "FROM\x03\x02\x00\x02", "DONE"}},
	} {
		if b := encoded(t, c.f); !bytes.Equal(b, container(c.want...)) {
			t.Errorf("K1: %s: %q, want %q", c.name, b, container(c.want...))
		}
		if f, e, at := pack.Decode(container(c.want...)); e != api.OK || at != 0 || !same(f, c.f) {
			t.Errorf("K5: %s: %v, %d, %d", c.name, f, e, at)
		}
	}
}

func TestEncodeRefused(t *testing.T) {
	long := strings.Repeat("x", 256)
	many := make([]int, api.MaxVertices+1)
	spots := make([]api.Point, 1)
	for _, c := range []struct {
		name string
		turn func(f *api.File)
		e    api.Errno
	}{
		{"no graph at all", func(f *api.File) { f.Graph = api.Graph{} }, api.ErrRows},
		{"N below 0", func(f *api.File) { f.Graph.N = -1 }, api.ErrSize},
		{"too many vertices", func(f *api.File) { f.Graph.N = api.MaxVertices + 1 }, api.ErrSize},
		{"a wrong row", func(f *api.File) { f.Graph.Start[1] = 9 }, api.ErrRows},
		{"a wrong end", func(f *api.File) { f.Graph.To[1] = 2 }, api.ErrVertex},
		{"a wrong weight", func(f *api.File) { f.Graph.Weight[1] = api.MaxWeight + 1 }, api.ErrWeight},
		{"too few points", func(f *api.File) { f.Points = spots }, api.ErrList},
		{"too many points", func(f *api.File) { f.Points = make([]api.Point, 3) }, api.ErrList},
		{"a point of no vertex", func(f *api.File) {
			f.Graph, f.Sources, f.Points = api.Graph{Start: []int{0}}, nil, spots
		}, api.ErrList},
		{"a long name", func(f *api.File) { f.Name = long }, api.ErrSize},
		{"too many sources", func(f *api.File) { f.Sources = many }, api.ErrSize},
		{"too many sources that are wrong", func(f *api.File) { f.Sources = slices.Repeat([]int{-1}, api.MaxVertices+1) }, api.ErrSize},
		{"no such source", func(f *api.File) { f.Sources = []int{0, 2} }, api.ErrVertex},
		{"a source below 0", func(f *api.File) { f.Sources = []int{-1} }, api.ErrVertex},
		{"the greatest int", func(f *api.File) { f.Sources = []int{math.MaxInt} }, api.ErrVertex},
		{"a source of no vertices", func(f *api.File) { f.Graph, f.Sources = api.Graph{Start: []int{0}}, []int{0} }, api.ErrVertex},
		{"the graph first", func(f *api.File) { f.Graph.To[1], f.Points, f.Name = 2, spots, long }, api.ErrVertex},
		{"points ahead of the name", func(f *api.File) { f.Points, f.Name, f.Sources = spots, long, []int{9} }, api.ErrList},
		{"the name ahead of the sources", func(f *api.File) { f.Name, f.Sources = long, []int{9} }, api.ErrSize},
	} {
		f := example()
		c.turn(&f)
		if b, e := pack.Encode(f); e != c.e || b != nil {
			t.Errorf("K1: %s: %d, want %d", c.name, e, c.e)
		}
	}
}

func TestAsMuchAsThereMayBe(t *testing.T) {
	f := example()
	f.Name, f.Sources = strings.Repeat("\xfe", 255), make([]int, api.MaxVertices)
	f.Sources[api.MaxVertices-1] = 1
	b := encoded(t, f)
	if g, e, at := pack.Decode(b); e != api.OK || at != 0 || !same(g, f) {
		t.Errorf("K5: the longest name, the most sources: %d, %d", e, at)
	}
	g := api.Graph{N: api.MaxVertices, Start: make([]int, api.MaxVertices+1), To: make([]int, api.MaxEdges), Weight: make([]uint64, api.MaxEdges)}
	for v := range g.N {
		g.Start[v+1] = 4 * (v + 1)
	}
	for i := range g.To {
		g.To[i], g.Weight[i] = i*40503%g.N, api.MaxWeight-uint64(i)
	}
	f = api.File{Graph: g, Points: make([]api.Point, g.N), Sources: []int{g.N - 1}}
	for v := range f.Points {
		f.Points[v] = api.Point{X: math.MinInt64 + int64(v)*int64(v), Y: int64(v) << 43}
	}
	b = encoded(t, f)
	if h, e, at := pack.Decode(b); e != api.OK || at != 0 || !same(h, f) {
		t.Errorf("K5: the most vertices and edges: %d, %d", e, at)
	}
	if l, e, at := pack.Sections(b); e != api.OK || at != 0 || len(l) != 7 {
		t.Errorf("K4: the most vertices and edges: %v, %d, %d", l, e, at)
	}
}

func anyFile(dice *rand.Rand) api.File {
	word := func() uint64 { return dice.Uint64() >> dice.IntN(64) }
	n := dice.IntN(9)
	f := api.File{Graph: api.Graph{N: n, Start: make([]int, n+1)}}
	for range dice.IntN(5) {
		f.Name += string([]byte{byte(word())})
	}
	for v := range n {
		for range dice.IntN(4) {
			f.Graph.To = append(f.Graph.To, dice.IntN(n))
			f.Graph.Weight = append(f.Graph.Weight, word()&api.MaxWeight)
		}
		f.Graph.Start[v+1] = len(f.Graph.To)
	}
	if dice.IntN(2) == 0 {
		for range n {
			f.Points = append(f.Points, api.Point{X: int64(word()), Y: -int64(word())})
		}
	}
	for range dice.IntN(4) {
		if n > 0 {
			f.Sources = append(f.Sources, dice.IntN(n))
		}
	}
	return f
}

func TestThereAndBack(t *testing.T) {
	dice := rand.New(rand.NewPCG(8, 1))
	for range 2000 {
		f := anyFile(dice)
		b := encoded(t, f)
		got, e, at := pack.Decode(b)
		if e != api.OK || at != 0 || !same(got, f) {
			t.Errorf("K5: %v is %v, %d, %d", f, got, e, at)
		}
		if again := encoded(t, got); !bytes.Equal(again, b) {
			t.Errorf("K6: %x is %x", b, again)
		}
		wantSections(t, b)
	}
}

func TestFilesAreNotShared(t *testing.T) {
	const spare = 77
	f, was := full(), full()
	f.Graph.Start = append(f.Graph.Start, spare)[:4:5]
	f.Graph.To = append(f.Graph.To, spare)[:5:6]
	f.Graph.Weight = append(f.Graph.Weight, spare)[:5:6]
	f.Points = append(f.Points, api.Point{X: spare})[:3:4]
	f.Sources = append(f.Sources, spare)[:3:4]
	b := encoded(t, f)
	want := bytes.Clone(b)
	if !same(f, was) || f.Graph.Start[:5][4] != spare || f.Graph.To[:6][5] != spare || f.Graph.Weight[:6][5] != spare || f.Points[:4][3].X != spare || f.Sources[:4][3] != spare {
		t.Errorf("P0.4: Encode has changed the file: %v", f)
	}
	soil(f)
	if !bytes.Equal(b, want) {
		t.Error("P0.4: the container has changed with the file")
	}
	roomy := append(bytes.Clone(b), spare)[: len(b) : len(b)+1]
	got, _, _ := pack.Decode(roomy)
	l, _, _ := pack.Sections(roomy)
	if !bytes.Equal(roomy[:len(b)+1], append(bytes.Clone(want), spare)) {
		t.Error("P0.4: Decode or Sections has changed the bytes")
	}
	clear(roomy[:cap(roomy)])
	if !same(got, was) || l[0].Tag != "HEAD" || l[6].Tag != "DONE" {
		t.Errorf("P0.4: the answer has changed with the bytes: %v, %v", got, l)
	}
	soil(got)
	clear(l)
	if again, e, _ := pack.Decode(want); e != api.OK || !same(again, was) {
		t.Errorf("P0.5: one Decode knows of another: %v, %d", again, e)
	}
	clear(b[:cap(b)])
	if b = encoded(t, was); !bytes.Equal(b, want) {
		t.Error("P0.5: one Encode knows of another")
	}
}

func TestListsOfAFileAreApart(t *testing.T) {
	for range 5 {
		f, _, _ := pack.Decode(encoded(t, full()))
		for i, spoil := range []func(){
			func() { fill(f.Graph.Start, 55) }, func() { fill(f.Graph.To, 55) }, func() { fill(f.Graph.Weight, 55) }, func() { fill(f.Sources, 55) }, func() { fill(f.Points, api.Point{X: 55}) },
		} {
			start, to, weight, sources, points := slices.Clone(f.Graph.Start), slices.Clone(f.Graph.To), slices.Clone(f.Graph.Weight), slices.Clone(f.Sources), slices.Clone(f.Points)
			spoil()
			same := []bool{slices.Equal(f.Graph.Start, start), slices.Equal(f.Graph.To, to), slices.Equal(f.Graph.Weight, weight), slices.Equal(f.Sources, sources), slices.Equal(f.Points, points)}
			for j, ok := range same {
				if i != j && !ok {
					t.Errorf("P0.4: the list %d of a file shares memory with the list %d", i, j)
				}
			}
		}
	}
}

// fill spoils a list and its spare room.
func fill[T any](l []T, with T) {
	l = l[:cap(l)]
	for i := range l {
		l[i] = with
	}
}

func soil(f api.File) {
	fill(f.Graph.Start, 99)
	fill(f.Graph.To, 99)
	fill(f.Graph.Weight, 99)
	fill(f.Points, api.Point{X: 99})
	fill(f.Sources, 99)
}
