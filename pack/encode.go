package pack

import (
	"wayfare/api"
	"wayfare/graph"
	"wayfare/octet"
)

// Encode writes a file.
func Encode(f api.File) ([]byte, api.Errno) {
	if e := check(f); e != api.OK {
		return nil, e
	}
	w := octet.NewWriter()
	w.Bytes([]byte(magic))
	w.Word(version, versionSize)
	section(w, tagHead, headOf(f))
	section(w, tagRows, rowsOf(f.Graph))
	section(w, tagEnds, endsOf(f.Graph))
	section(w, tagWgts, weightsOf(f.Graph))
	if len(f.Points) > 0 {
		section(w, tagSpot, pointsOf(f.Points))
	}
	if len(f.Sources) > 0 {
		section(w, tagFrom, sourcesOf(f.Sources))
	}
	section(w, tagDone, octet.NewWriter())
	return w.Out(), api.OK
}

// check tells what is wrong with a file.
func check(f api.File) api.Errno {
	if e, _ := graph.Check(f.Graph); e != api.OK {
		return e
	}
	if len(f.Points) > 0 && len(f.Points) != f.Graph.N {
		return api.ErrList
	}
	if len(f.Name) > mostName || len(f.Sources) > api.MaxVertices {
		return api.ErrSize
	}
	for _, v := range f.Sources {
		if v < 0 || v >= f.Graph.N {
			return api.ErrVertex
		}
	}
	return api.OK
}

// section writes a section: its head, its content, and the sum of each.
func section(w *octet.Writer, tag string, content *octet.Writer) {
	head := w.Len()
	w.Bytes([]byte(tag))
	w.Word(uint64(content.Len()), lengthSize)
	w.Seal(head)
	first := w.Len()
	w.Bytes(content.Out())
	w.Seal(first)
}

func headOf(f api.File) *octet.Writer {
	w := octet.NewWriter()
	w.Var(uint64(f.Graph.N))
	w.Var(uint64(len(f.Graph.To)))
	w.Var(uint64(len(f.Name)))
	w.Bytes([]byte(f.Name))
	return w
}

func rowsOf(g api.Graph) *octet.Writer {
	w := octet.NewWriter()
	for v := range g.N {
		w.Var(uint64(g.Start[v+1] - g.Start[v]))
	}
	return w
}

// endsOf writes how far each end is from the one ahead in its row: near ends make short numbers.
func endsOf(g api.Graph) *octet.Writer {
	w := octet.NewWriter()
	for v := range g.N {
		ahead := v
		for _, to := range g.To[g.Start[v]:g.Start[v+1]] {
			w.Var(octet.Zig(int64(to - ahead)))
			ahead = to
		}
	}
	return w
}

func weightsOf(g api.Graph) *octet.Writer {
	w := octet.NewWriter()
	for _, weight := range g.Weight {
		w.Var(weight)
	}
	return w
}

func pointsOf(points []api.Point) *octet.Writer {
	w := octet.NewWriter()
	var ahead api.Point
	for _, p := range points {
		w.Var(octet.Zig(p.X - ahead.X))
		w.Var(octet.Zig(p.Y - ahead.Y))
		ahead = p
	}
	return w
}

func sourcesOf(sources []int) *octet.Writer {
	w := octet.NewWriter()
	w.Var(uint64(len(sources)))
	for _, v := range sources {
		w.Var(uint64(v))
	}
	return w
}
