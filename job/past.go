package job

import (
	"strings"

	"wayfare/api"
	"wayfare/history"
	"wayfare/octet"
)

// accessWords are the words of the kinds of accesses.
var accessWords = [...]string{
	api.AccLoad:  "load",
	api.AccStore: "store",
	api.AccCas:   "cas",
	api.AccAdd:   "add",
	api.AccSwap:  "swap",
}

// kept is the search that is under way, of which accesses and events are kept.
func (s *state) kept() (*search, error) {
	x, err := s.underWay()
	if err != nil {
		return nil, err
	}
	if !x.plan.Keep {
		return nil, refused(api.ErrState)
	}
	return x, nil
}

// past is what was done by a search.
type past struct {
	ring   bool
	events []api.Event
	spans  []api.Span
	order  []int // in which a bag has these
	isBag  bool
}

// past tells what was done by the search that is under way.
func (s *state) past() (past, error) {
	x, err := s.kept()
	if err != nil {
		return past{}, err
	}
	p := past{ring: x.plan.Pool == api.PoolRing, events: x.events()}
	if len(p.events) > api.MaxEvents {
		return past{}, refused(api.ErrMany)
	}
	var e api.Errno
	p.spans, e, _ = history.Spans(p.events)
	if e != api.OK {
		return past{}, refused(e)
	}
	p.order, p.isBag, e = history.Bag(p.spans)
	return p, refused(e)
}

// events are those of the search, behind the insertions of the tasks at the start by one who is no worker.
func (x *search) events() []api.Event {
	var out []api.Event
	who := x.plan.Workers
	for _, s := range x.plan.Starts {
		t := api.Task{Key: s.Label, Load: uint64(s.Vertex)}
		out = append(out, api.Event{Who: who, Kind: api.EvInsert, Task: t}, api.Event{Who: who, Kind: api.EvInserted})
	}
	return append(out, x.crew.History()...)
}

func (s *state) doHistory(o api.Order) (string, error) {
	p, err := s.past()
	if err != nil {
		return "", err
	}
	words := []string{"history", decimal(len(p.spans)), "bag", yesNo(p.isBag)}
	if p.ring {
		_, isQueue, e := history.Queue(p.spans)
		if e != api.OK {
			return "", refused(e)
		}
		words = append(words, "queue", yesNo(isQueue))
	}
	text, e := history.Show(p.events)
	return line(words...) + text, refused(e)
}

func (s *state) doRanks(o api.Order) (string, error) {
	p, err := s.past()
	if err != nil {
		return "", err
	}
	r, e := history.Ranks(p.spans, p.order)
	if e != api.OK {
		return "", refused(e)
	}
	return line("ranks", decimal(r.Takes), decimal(r.Worst), decimal(r.Total), thousandths(r.Mean), thousandths(r.Var)), nil
}

func (s *state) doLog(o api.Order) (string, error) {
	x, err := s.kept()
	if err != nil {
		return "", err
	}
	log := x.crew.Log()
	first := max(0, len(log)-int(o.Nums[0]))
	var out strings.Builder
	out.WriteString(line("log", decimal(len(log))))
	for _, a := range log[first:] {
		out.WriteString(line(accessText(a)...))
	}
	return out.String(), nil
}

// accessText are the words of an access.
func accessText(a api.Access) []string {
	words := []string{decimal(a.Who), accessWords[a.Kind], decimal(a.Cell), octet.Decimal(a.Seen), octet.Decimal(a.Left)}
	if !a.Ok { // that is told of a cas alone: the others always go
		words = append(words, "no")
	}
	return words
}
