package job

import (
	"wayfare/api"
	"wayfare/dimacs"
	"wayfare/graph"
	"wayfare/pack"
)

// state is what the commands of a job have come to.
type state struct {
	graphs map[string]api.Graph
	plan   api.Plan
	words  [api.MaxWorkers][]uint64 // by worker
	picks  []int
	search *search // nil: none is under way
}

func newState() *state {
	return &state{graphs: map[string]api.Graph{}, plan: firstPlan()}
}

// do does an order, and tells its answer.
func (s *state) do(o api.Order) (string, error) {
	c, _ := commandOf(o.Kind)
	answer, err := c.run(s, o)
	if err != nil {
		return "", refusal{told(err).number, o.Line, 1}
	}
	return answer, nil
}

func (s *state) doGraph(o api.Order) (string, error) {
	if err := s.isFree(o.Name); err != nil {
		return "", err
	}
	roads, e, _, _ := dimacs.ReadGr(o.Text)
	if e != api.OK {
		return "", refused(e)
	}
	g, e, _ := graph.Build(roads)
	if e != api.OK {
		return "", refused(e)
	}
	return s.name(o.Name, g), nil
}

func (s *state) doPack(o api.Order) (string, error) {
	if err := s.isFree(o.Name); err != nil {
		return "", err
	}
	b, err := bytesOf(o.Text)
	if err != nil {
		return "", err
	}
	f, e, _ := pack.Decode(b)
	if e != api.OK {
		return "", refused(e)
	}
	return s.name(o.Name, f.Graph), nil
}

// isFree looks that a name is not known yet.
func (s *state) isFree(name string) error {
	if _, known := s.graphs[name]; known {
		return refused(api.ErrName)
	}
	return nil
}

// name gives a graph a name, and tells the answer to that.
func (s *state) name(name string, g api.Graph) string {
	s.graphs[name] = g
	return line("graph", name, decimal(g.N), decimal(len(g.To)))
}

// graph is a graph that has a name.
func (s *state) graph(name string) (api.Graph, error) {
	g, known := s.graphs[name]
	if !known {
		return api.Graph{}, refused(api.ErrName)
	}
	return g, nil
}

func (s *state) doPlan(o api.Order) (string, error) {
	s.plan = o.Plan
	return "", nil
}

func (s *state) doWords(o api.Order) (string, error) {
	who := o.Nums[0]
	if who >= api.MaxWorkers {
		return "", refused(api.ErrSize)
	}
	s.words[who] = o.Nums[1:]
	return "", nil
}

func (s *state) doPicks(o api.Order) (string, error) {
	s.picks = append(s.picks, o.Picks...)
	return "", nil
}

// vertexOf is the vertex of a graph that a number of a text means.
func vertexOf(g api.Graph, number uint64) (int, error) {
	if number == 0 || number > uint64(g.N) {
		return 0, refused(api.ErrVertex)
	}
	return int(number - 1), nil
}
