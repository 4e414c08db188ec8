package job

import (
	"wayfare/api"
	"wayfare/crew"
	"wayfare/route"
)

// mostSteps is how many picks a step command has at most.
const mostSteps = 1 << 20

// search is a search that is under way.
type search struct {
	crew  *crew.Crew
	graph api.Graph // what it was begun with
	plan  api.Plan
	open  int // how many workers are not over
	steps int // accesses that were made
	picks int // picks that were taken
}

// asked is the graph that an order names, and the plan by which it is to be searched from the order's vertex.
func (s *state) asked(o api.Order) (api.Graph, api.Plan, error) {
	g, err := s.graph(o.Name)
	if err != nil {
		return api.Graph{}, api.Plan{}, err
	}
	from, err := vertexOf(g, o.Nums[0])
	if err != nil {
		return api.Graph{}, api.Plan{}, err
	}
	starts, e := route.Starts(g, s.plan.Kind, from)
	if e != api.OK {
		return api.Graph{}, api.Plan{}, refused(e)
	}
	p := s.plan
	p.Starts, p.Words = starts, s.words[:]
	return g, p, nil
}

func (s *state) doRun(o api.Order) (string, error) {
	g, p, err := s.asked(o)
	if err != nil {
		return "", err
	}
	c, e := crew.New(g, p)
	if e != api.OK {
		return "", refused(e)
	}
	s.search = &search{crew: c, graph: g, plan: p, open: p.Workers}
	for _, w := range s.picks {
		s.search.pick(w)
	}
	s.picks = nil
	return s.search.stateLine(), nil
}

// pick takes a pick, unless all workers are over. It is crew.Run's, and crew.Finish's, one by one: these do not tell how many picks made an access.
func (s *search) pick(w int) {
	if s.open == 0 {
		return
	}
	turn := s.crew.Pick(w)
	s.picks++
	if turn.Moved {
		s.steps++
		if turn.Over {
			s.open--
		}
	}
}

// stateLine is the line of the state.
func (s *search) stateLine() string {
	word := "open"
	switch s.crew.Outcome() {
	case api.RunDone:
		word = "done"
	case api.RunFailed:
		word = "failed"
	}
	return line("run", word, "steps", decimal(s.steps), "picks", decimal(s.picks))
}

// underWay is the search that is under way.
func (s *state) underWay() (*search, error) {
	if s.search == nil {
		return nil, refused(api.ErrState)
	}
	return s.search, nil
}

func (s *state) doStep(o api.Order) (string, error) {
	x, err := s.underWay()
	if err != nil {
		return "", err
	}
	if o.Nums[0] > mostSteps {
		return "", refused(api.ErrSize)
	}
	for w := range int(o.Nums[0]) {
		x.pick(w)
	}
	return x.stateLine(), nil
}

func (s *state) doFinish(o api.Order) (string, error) {
	x, err := s.underWay()
	if err != nil {
		return "", err
	}
	for w := 0; x.open > 0; w++ {
		x.pick(w)
	}
	return x.stateLine(), nil
}

func (s *state) doLive(o api.Order) (string, error) {
	g, p, err := s.asked(o)
	if err != nil {
		return "", err
	}
	outcome, labels, e := crew.Live(g, p)
	if e != api.OK {
		return "", refused(e)
	}
	s.search = nil
	if outcome != api.RunDone {
		return line("live", "failed"), nil
	}
	return line("live", "done") + labelLines(labels), nil
}

func (s *state) doSerial(o api.Order) (string, error) {
	g, p, err := s.asked(o)
	if err != nil {
		return "", err
	}
	labels, e := route.Search(g, p.Kind, p.Starts)
	if e != api.OK {
		return "", refused(e)
	}
	return line("serial") + labelLines(labels), nil
}
