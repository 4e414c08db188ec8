package pack

import (
	"wayfare/api"
	"wayfare/octet"
)

// reader reads a content; places are told as those of the container.
type reader struct {
	in    *octet.Reader
	first int // where the content begins
}

func (r *reader) at() int {
	return r.first + r.in.At()
}

func (r *reader) number() uint64 {
	v, e := r.in.Var()
	if e != api.OK {
		giveUp(e, r.at()) // what octet refuses leaves its place
	}
	return v
}

// upTo reads a number that is at most so much; past is the error of a greater one.
func (r *reader) upTo(most uint64, past api.Errno) uint64 {
	at := r.at()
	v := r.number()
	if v > most {
		giveUp(past, at)
	}
	return v
}

func (r *reader) signed() int64 {
	return octet.Zag(r.number())
}

// vertex reads a vertex of n.
func (r *reader) vertex(n int) int {
	at := r.at()
	v := r.number()
	if v >= uint64(n) {
		giveUp(api.ErrVertex, at)
	}
	return int(v)
}

// room is how many of count things, each of at least so many bytes, may be there: what a content promises and cannot hold gets no memory.
func (r *reader) room(count, bytes int) int {
	return min(count, r.in.Left()/bytes)
}

// decoder is what was read of a file.
type decoder struct {
	file  api.File
	edges int // how many the head tells
}

// section reads a section's content, all of it.
func (d *decoder) section(tag string, r *reader) {
	switch tag {
	case tagHead:
		d.head(r)
	case tagRows:
		d.rows(r)
	case tagEnds:
		d.ends(r)
	case tagWgts:
		d.weights(r)
	case tagSpot:
		d.points(r)
	case tagFrom:
		d.sources(r)
	}
	if r.in.Left() > 0 {
		giveUp(api.ErrTail, r.at())
	}
}

func (d *decoder) head(r *reader) {
	d.file.Graph.N = int(r.upTo(api.MaxVertices, api.ErrSize))
	d.edges = int(r.upTo(api.MaxEdges, api.ErrSize))
	long := int(r.upTo(mostName, api.ErrSize))
	name, e := r.in.Bytes(long)
	if e != api.OK {
		giveUp(e, r.at())
	}
	d.file.Name = string(name)
}

func (d *decoder) rows(r *reader) {
	g := &d.file.Graph
	g.Start = make([]int, 1, r.room(g.N, 1)+1)
	sum := 0
	for range g.N {
		sum += int(r.upTo(uint64(d.edges-sum), api.ErrRows))
		g.Start = append(g.Start, sum)
	}
	if sum < d.edges {
		giveUp(api.ErrRows, r.first)
	}
}

func (d *decoder) ends(r *reader) {
	g := &d.file.Graph
	g.To = make([]int, 0, r.room(d.edges, 1))
	for v := range g.N {
		ahead := v
		for range g.Start[v+1] - g.Start[v] {
			ahead = r.end(ahead, g.N)
			g.To = append(g.To, ahead)
		}
	}
}

// end reads where an edge goes to, told by how far that is from the vertex ahead. The far is looked at, not the sum, which might wrap.
func (r *reader) end(ahead, n int) int {
	at := r.at()
	far := r.signed()
	if far < int64(-ahead) || far >= int64(n-ahead) {
		giveUp(api.ErrVertex, at)
	}
	return ahead + int(far)
}

func (d *decoder) weights(r *reader) {
	g := &d.file.Graph
	g.Weight = make([]uint64, 0, r.room(d.edges, 1))
	for range d.edges {
		g.Weight = append(g.Weight, r.upTo(api.MaxWeight, api.ErrWeight))
	}
}

func (d *decoder) points(r *reader) {
	n := d.file.Graph.N
	if n == 0 { // a file without points has no such section
		giveUp(api.ErrList, r.first)
	}
	d.file.Points = make([]api.Point, 0, r.room(n, 2))
	var p api.Point
	for range n {
		p.X += r.signed()
		p.Y += r.signed()
		d.file.Points = append(d.file.Points, p)
	}
}

func (d *decoder) sources(r *reader) {
	count := int(r.upTo(api.MaxVertices, api.ErrSize))
	if count == 0 { // a file without sources has no such section
		giveUp(api.ErrList, r.first)
	}
	d.file.Sources = make([]int, 0, r.room(count, 1))
	for range count {
		d.file.Sources = append(d.file.Sources, r.vertex(d.file.Graph.N))
	}
}
