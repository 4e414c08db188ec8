package dimacs

import (
	"strconv"
	"strings"

	"wayfare/api"
	"wayfare/octet"
)

// ShowGr writes edges.
func ShowGr(r api.Roads) (string, api.Errno) {
	if r.N < 0 || r.N > api.MaxVertices || len(r.Edges) > api.MaxEdges {
		return "", api.ErrSize
	}
	for _, x := range r.Edges {
		switch {
		case !isVertex(r.N, x.From) || !isVertex(r.N, x.To):
			return "", api.ErrVertex
		case x.Weight > api.MaxWeight:
			return "", api.ErrWeight
		}
	}
	var out strings.Builder
	kind := edgesKind()
	line(&out, kind.head, count(r.N), count(len(r.Edges)))
	for _, x := range r.Edges {
		line(&out, kind.item, vertex(x.From), vertex(x.To), octet.Decimal(x.Weight))
	}
	return out.String(), api.OK
}

// ShowCo writes points.
func ShowCo(l []api.Point) (string, api.Errno) {
	if len(l) > api.MaxVertices {
		return "", api.ErrSize
	}
	var out strings.Builder
	kind := pointsKind()
	line(&out, kind.head, count(len(l)))
	for v, p := range l {
		line(&out, kind.item, vertex(v), strconv.FormatInt(p.X, 10), strconv.FormatInt(p.Y, 10))
	}
	return out.String(), api.OK
}

// ShowSs writes sources.
func ShowSs(l []int) (string, api.Errno) {
	if len(l) > api.MaxEdges {
		return "", api.ErrSize
	}
	for _, v := range l {
		if !isVertex(api.MaxVertices, v) {
			return "", api.ErrVertex
		}
	}
	var out strings.Builder
	kind := sourcesKind()
	line(&out, kind.head, count(len(l)))
	for _, v := range l {
		line(&out, kind.item, vertex(v))
	}
	return out.String(), api.OK
}

// ShowPairs writes queries.
func ShowPairs(l []api.Query) (string, api.Errno) {
	if len(l) > api.MaxEdges {
		return "", api.ErrSize
	}
	for _, q := range l {
		if !isVertex(api.MaxVertices, q.From) || !isVertex(api.MaxVertices, q.To) {
			return "", api.ErrVertex
		}
	}
	var out strings.Builder
	kind := queriesKind()
	line(&out, kind.head, count(len(l)))
	for _, q := range l {
		line(&out, kind.item, vertex(q.From), vertex(q.To))
	}
	return out.String(), api.OK
}

func isVertex(n, v int) bool {
	return v >= 0 && v < n
}

// line writes words as a line.
func line(out *strings.Builder, first string, words ...string) {
	out.WriteString(first)
	for _, w := range words {
		out.WriteByte(' ')
		out.WriteString(w)
	}
	out.WriteByte('\n')
}

func count(n int) string {
	return octet.Decimal(uint64(n))
}

// vertex writes a vertex as the texts number it, from 1 on.
func vertex(v int) string {
	return octet.Decimal(uint64(v) + 1)
}
