package job

import (
	"strings"

	"wayfare/api"
	"wayfare/graph"
	"wayfare/ladder"
	"wayfare/octet"
	"wayfare/pack"
	"wayfare/route"
	"wayfare/seek"
	"wayfare/strong"
)

// landmarks is how many landmarks guide a search.
const landmarks = 2

func (s *state) doDump(o api.Order) (string, error) {
	g, err := s.graph(o.Name)
	if err != nil {
		return "", err
	}
	b, e := pack.Encode(api.File{Name: o.Name, Graph: g})
	return line("dump", decimal(len(b))) + hexLines(b), refused(e)
}

func (s *state) doStats(o api.Order) (string, error) {
	g, err := s.graph(o.Name)
	if err != nil {
		return "", err
	}
	degree := 0
	for v := range g.N {
		degree = max(degree, g.Start[v+1]-g.Start[v])
	}
	var heavy uint64
	for _, w := range g.Weight {
		heavy = max(heavy, w)
	}
	reach, e := reachOf(g)
	return line("stats", o.Name, decimal(g.N), decimal(len(g.To)), decimal(degree), decimal(reach), octet.Decimal(heavy)), refused(e)
}

// reachOf is how many vertices can be reached from the first one.
func reachOf(g api.Graph) (int, api.Errno) {
	if g.N == 0 {
		return 0, api.OK
	}
	reached, e := graph.Reach(g, []int{0})
	count := 0
	for _, is := range reached {
		if is {
			count++
		}
	}
	return count, e
}

func (s *state) doStrong(o api.Order) (string, error) {
	g, err := s.graph(o.Name)
	if err != nil {
		return "", err
	}
	parts, e := strong.Parts(g)
	if e != api.OK {
		return "", refused(e)
	}
	last, err := orderLine(g)
	if err != nil {
		return "", err
	}
	var out strings.Builder
	count := 0
	for v, p := range parts {
		count = max(count, p+1)
		out.WriteString(line(vertexText(v), decimal(p+1)))
	}
	return line("strong", o.Name, decimal(count)) + out.String() + last, nil
}

// orderLine tells an order in which every edge goes forwards, or that there is a circle.
func orderLine(g api.Graph) (string, error) {
	order, e := strong.Order(g)
	if e == api.ErrOrder {
		return line("circle"), nil
	}
	return line(vertexWords("order", order)...), refused(e)
}

// wayEnds are the graph that an order names, and the two vertices between which it asks for a way.
func (s *state) wayEnds(o api.Order) (g api.Graph, from, to int, err error) {
	g, err = s.graph(o.Name)
	if err != nil {
		return api.Graph{}, 0, 0, err
	}
	from, err = vertexOf(g, o.Nums[0])
	if err != nil {
		return api.Graph{}, 0, 0, err
	}
	to, err = vertexOf(g, o.Nums[1])
	return g, from, to, err
}

func (s *state) doSeek(o api.Order) (string, error) {
	g, from, to, err := s.wayEnds(o)
	if err != nil {
		return "", err
	}
	way, e := seek.Both(g, s.plan.Kind, from, to)
	if e != api.OK {
		return "", refused(e)
	}
	words := []string{"seek", octet.Decimal(way.Label)}
	if s.plan.Kind == api.KindSum {
		label, err := guided(g, from, to)
		if err != nil {
			return "", err
		}
		words = append(words, "guided", octet.Decimal(label))
	}
	return line(words...), nil
}

// guided is the label of a way that landmarks guide.
func guided(g api.Graph, from, to int) (uint64, error) {
	at, e := seek.Far(g, from, landmarks)
	if e != api.OK {
		return 0, refused(e)
	}
	marks, e := seek.Mark(g, at)
	if e != api.OK {
		return 0, refused(e)
	}
	way, e := seek.Guided(g, marks, from, to)
	return way.Label, refused(e)
}

func (s *state) doLadder(o api.Order) (string, error) {
	g, from, to, err := s.wayEnds(o)
	if err != nil {
		return "", err
	}
	order, e := ladder.Easy(g)
	if e != api.OK {
		return "", refused(e)
	}
	l, e := ladder.Build(g, s.plan.Kind, order)
	if e != api.OK {
		return "", refused(e)
	}
	label, rungs, e := ladder.Climb(l, from, to)
	if e != api.OK {
		return "", refused(e)
	}
	way, e := ladder.Unfold(l, rungs)
	if e != api.OK {
		return "", refused(e)
	}
	length, e := route.Length(g, s.plan.Kind, 0, way)
	return line("ladder", decimal(len(l.Rungs)), octet.Decimal(label), octet.Decimal(length)), refused(e)
}
