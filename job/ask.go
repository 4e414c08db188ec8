package job

import (
	"sort"
	"strings"

	"wayfare/api"
	"wayfare/octet"
	"wayfare/route"
	"wayfare/voucher"
)

// phaseWords are the words of the phases of workers.
var phaseWords = [...]string{
	api.PhAsk:    "ask",
	api.PhTake:   "take",
	api.PhLook:   "look",
	api.PhRead:   "read",
	api.PhLower:  "lower",
	api.PhRaise:  "raise",
	api.PhInsert: "insert",
	api.PhEnd:    "end",
	api.PhFail:   "fail",
	api.PhOver:   "over",
}

// labelled is the search that is under way, with its labels.
func (s *state) labelled() (*search, []uint64, error) {
	x, err := s.underWay()
	if err != nil {
		return nil, nil, err
	}
	labels, e := x.crew.Labels()
	if e != api.OK {
		return nil, nil, refused(e)
	}
	return x, labels, nil
}

func (s *state) doLabels(o api.Order) (string, error) {
	_, labels, err := s.labelled()
	if err != nil {
		return "", err
	}
	return line("labels") + labelLines(labels), nil
}

func (s *state) doPath(o api.Order) (string, error) {
	x, labels, err := s.labelled()
	if err != nil {
		return "", err
	}
	to, err := vertexOf(x.graph, o.Nums[0])
	if err != nil {
		return "", err
	}
	if labels[to] == api.Never {
		return "", refused(api.ErrReach)
	}
	by, _, e := route.Tree(x.graph, x.plan.Kind, x.plan.Starts, labels)
	if e != api.OK {
		return "", refused(e)
	}
	way, e := route.Path(x.graph, by, to)
	if e != api.OK {
		return "", refused(e)
	}
	vertices := vertexWords(octet.Decimal(labels[to]), verticesOf(x.graph, way, to))
	return line("path", strings.Join(vertices, " ")), nil
}

// verticesOf are the vertices of a way to a vertex.
func verticesOf(g api.Graph, way []int, to int) []int {
	if len(way) == 0 {
		return []int{to}
	}
	out := []int{rowOf(g, way[0])}
	for _, edge := range way {
		out = append(out, g.To[edge])
	}
	return out
}

// rowOf is the vertex from which an edge goes.
func rowOf(g api.Graph, edge int) int {
	return sort.Search(g.N, func(v int) bool { return g.Start[v+1] > edge })
}

func (s *state) doView(o api.Order) (string, error) {
	x, err := s.underWay()
	if err != nil {
		return "", err
	}
	v := x.crew.View()
	var out strings.Builder
	out.WriteString(line("view", "born", decimal(len(v.Born)), "ended", decimal(len(v.Ended)), "held", decimal(len(v.Held)),
		"pending", octet.Decimal(v.Pend), "done", octet.Decimal(v.Done), "fault", octet.Decimal(v.Fault)))
	for who, phase := range v.Phase {
		out.WriteString(line("worker", decimal(who), phaseWords[phase]))
	}
	for _, t := range v.Held {
		out.WriteString(line("task", octet.Decimal(t.Key), vertexText(int(t.Load))))
	}
	return out.String(), nil
}

func (s *state) doCheck(o api.Order) (string, error) {
	x, labels, err := s.labelled()
	if err != nil {
		return "", err
	}
	right, e := route.Search(x.graph, x.plan.Kind, x.plan.Starts)
	if e != api.OK {
		return "", refused(e)
	}
	for v, label := range right {
		if labels[v] != label {
			return line("check", "wrong", vertexText(v)), nil
		}
	}
	return line("check", "right"), nil
}

func (s *state) doVoucher(o api.Order) (string, error) {
	x, _, err := s.labelled()
	if err != nil {
		return "", err
	}
	v, e := voucher.Make(x.graph, x.plan.Kind, x.plan.Starts)
	if e != api.OK {
		return "", refused(e)
	}
	text, e := voucher.Show(v)
	if e != api.OK {
		return "", refused(e)
	}
	return line("voucher") + text, nil
}
