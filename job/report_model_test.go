package job_test

import (
	"encoding/hex"
	"fmt"
	"math/rand"
	"strings"
	"testing"

	"wayfare/api"
	"wayfare/crew"
	"wayfare/dimacs"
	"wayfare/graph"
	"wayfare/history"
	"wayfare/job"
	"wayfare/ladder"
	"wayfare/pack"
	"wayfare/route"
	"wayfare/seek"
	"wayfare/strong"
	"wayfare/voucher"
)

// errorNumbers are all errors, in the order of their numbers.
var errorNumbers = []api.Errno{
	api.ErrShort, api.ErrLong, api.ErrLoose, api.ErrWidth, api.ErrDigits, api.ErrPlace, api.ErrBelow, api.ErrCells, api.ErrCell, api.ErrWho, api.ErrToken, api.ErrName, api.ErrSize, api.ErrLine,
	api.ErrVertex, api.ErrWeight, api.ErrRows, api.ErrOrder, api.ErrList, api.ErrMagic, api.ErrVersion, api.ErrSection, api.ErrSum, api.ErrTail, api.ErrKind, api.ErrLabel, api.ErrReach, api.ErrProof,
	api.ErrShape, api.ErrBusy, api.ErrFull, api.ErrEvents, api.ErrMany, api.ErrTwice, api.ErrState, api.ErrCommand,
}

const errorNames = "short long loose width digits place below cells cell who token name size line vertex weight rows order list magic version section sum tail kind label reach proof shape busy full events many twice state command"

func nameOf(e api.Errno) string {
	for i, n := range errorNumbers {
		if n == e {
			return strings.Fields(errorNames)[i]
		}
	}
	return fmt.Sprint("no error: ", e)
}

// teller tells a report as the chapter does, order by order. Its searches keep all accesses, so that they can be counted.
type teller struct {
	out    strings.Builder
	graphs map[string]api.Graph
	plan   api.Plan
	words  map[int][]uint64
	picks  []int

	crew  *crew.Crew // nil: no search is under way
	graph api.Graph
	with  api.Plan
	taken int
}

// reportTold is J4 word by word.
func reportTold(text string) string {
	j, e, line, at := job.Read(text)
	t := teller{graphs: map[string]api.Graph{}, words: map[int][]uint64{}, plan: api.Plan{Kind: api.KindSum, Workers: 1, Pool: api.PoolRing, Cap: 65536}}
	for _, o := range j.Orders {
		ahead := t.out.Len()
		if e := t.do(o); e != api.OK {
			return fmt.Sprintf("%serror %d 1 %s\n", t.out.String()[:ahead], o.Line, nameOf(e))
		}
	}
	if e != api.OK {
		t.say("error %d %d %s", line, at, nameOf(e))
	}
	return t.out.String()
}

func (t *teller) say(form string, things ...any) { fmt.Fprintf(&t.out, form+"\n", things...) }

func (t *teller) do(o api.Order) api.Errno {
	switch o.Kind {
	case api.JobGraph, api.JobPack:
		return t.build(o)
	case api.JobPlan:
		t.plan = o.Plan
	case api.JobWords:
		if o.Nums[0] > 63 {
			return api.ErrSize
		}
		t.words[int(o.Nums[0])] = o.Nums[1:]
	case api.JobPicks:
		t.picks = append(t.picks, o.Picks...)
	case api.JobRun, api.JobLive, api.JobSerial:
		return t.search(o)
	case api.JobDump, api.JobStats, api.JobStrong, api.JobSeek, api.JobLadder:
		g, known := t.graphs[o.Name]
		if !known {
			return api.ErrName
		}
		return t.ofGraph(o, g)
	default:
		if t.crew == nil {
			return api.ErrState
		}
		return t.ofSearch(o)
	}
	return api.OK
}

func (t *teller) build(o api.Order) api.Errno {
	if _, known := t.graphs[o.Name]; known {
		return api.ErrName
	}
	var g api.Graph
	if o.Kind == api.JobGraph {
		r, e, _, _ := dimacs.ReadGr(o.Text)
		if e != api.OK {
			return e
		}
		if g, e, _ = graph.Build(r); e != api.OK {
			return e
		}
	} else {
		b, err := hex.DecodeString(strings.NewReplacer(" ", "", "\t", "", "\n", "").Replace(o.Text))
		if err != nil {
			return api.ErrDigits
		}
		f, e, _ := pack.Decode(b)
		if e != api.OK {
			return e
		}
		g = f.Graph
	}
	t.graphs[o.Name] = g
	t.say("graph %s %d %d", o.Name, g.N, len(g.To))
	return api.OK
}

func (t *teller) search(o api.Order) api.Errno {
	g, known := t.graphs[o.Name]
	if !known {
		return api.ErrName
	}
	if o.Nums[0] == 0 {
		return api.ErrVertex
	}
	p := t.plan
	var e api.Errno
	if p.Starts, e = route.Starts(g, p.Kind, int(o.Nums[0]-1)); e != api.OK {
		return e
	}
	p.Words = make([][]uint64, 64)
	for w, l := range t.words {
		p.Words[w] = l
	}
	switch o.Kind {
	case api.JobRun:
		t.graph, t.with = g, p
		p.Keep = true
		c, e := crew.New(g, p)
		if e != api.OK {
			return e
		}
		t.crew = c
		t.taken = c.Run(t.picks)
		t.picks = nil
		t.state()
	case api.JobLive:
		outcome, labels, e := crew.Live(g, p)
		if e != api.OK {
			return e
		}
		t.crew = nil
		if outcome == api.RunDone {
			t.say("live done")
			t.labels(labels)
		} else {
			t.say("live failed")
		}
	case api.JobSerial:
		labels, _ := route.Search(g, p.Kind, p.Starts)
		t.say("serial")
		t.labels(labels)
	}
	return api.OK
}

func (t *teller) state() {
	t.say("run %s steps %d picks %d", []string{"open", "done", "failed"}[t.crew.Outcome()], len(t.crew.Log()), t.taken)
}

func (t *teller) labels(labels []uint64) {
	for v, l := range labels {
		if l == api.Never {
			t.say("%d -", v+1)
		} else {
			t.say("%d %d", v+1, l)
		}
	}
}

func (t *teller) ofSearch(o api.Order) api.Errno {
	switch o.Kind {
	case api.JobStep:
		if o.Nums[0] > 1<<20 {
			return api.ErrSize
		}
		var turns []int
		for i := range int(o.Nums[0]) {
			turns = append(turns, i%t.with.Workers)
		}
		t.taken += t.crew.Run(turns)
		t.state()
	case api.JobFinish:
		t.taken += t.crew.Finish()
		t.state()
	case api.JobView:
		v := t.crew.View()
		t.say("view born %d ended %d held %d pending %d done %d fault %d", len(v.Born), len(v.Ended), len(v.Held), v.Pend, v.Done, v.Fault)
		for w, p := range v.Phase {
			t.say("worker %d %s", w, strings.Fields("ask take look read lower raise insert end fail over")[p-1])
		}
		for _, x := range v.Held {
			t.say("task %d %d", x.Key, x.Load+1)
		}
	case api.JobHistory, api.JobRanks, api.JobLog:
		if !t.with.Keep {
			return api.ErrState
		}
		return t.past(o)
	default:
		labels, e := t.crew.Labels()
		if e != api.OK {
			return api.ErrState
		}
		return t.ofLabels(o, labels)
	}
	return api.OK
}

func (t *teller) ofLabels(o api.Order, labels []uint64) api.Errno {
	switch o.Kind {
	case api.JobLabels:
		t.say("labels")
		t.labels(labels)
	case api.JobCheck:
		t.say("check right")
		if right, _ := route.Search(t.graph, t.with.Kind, t.with.Starts); fmt.Sprint(right) != fmt.Sprint(labels) {
			t.say("but it is wrong")
		}
	case api.JobVoucher:
		v, _ := voucher.Make(t.graph, t.with.Kind, t.with.Starts)
		s, _ := voucher.Show(v)
		t.out.WriteString("voucher\n" + s)
	case api.JobPath:
		v := o.Nums[0]
		if v == 0 || v > uint64(t.graph.N) {
			return api.ErrVertex
		}
		if labels[v-1] == api.Never {
			return api.ErrReach
		}
		by, _, _ := route.Tree(t.graph, t.with.Kind, t.with.Starts, labels)
		way, _ := route.Path(t.graph, by, int(v-1))
		roads, _ := graph.Edges(t.graph)
		line := fmt.Sprintf("path %d", labels[v-1])
		for _, e := range way {
			line += fmt.Sprintf(" %d", roads.Edges[e].From+1)
		}
		t.say("%s %d", line, v)
	}
	return api.OK
}

func (t *teller) past(o api.Order) api.Errno {
	if o.Kind == api.JobLog {
		log := t.crew.Log()
		t.say("log %d", len(log))
		for i, a := range log {
			if uint64(len(log)-i) <= o.Nums[0] {
				no := ""
				if a.Kind == api.AccCas && !a.Ok {
					no = " no"
				}
				t.say("%d %s %d %d %d%s", a.Who, strings.Fields("load store cas add swap")[a.Kind-1], a.Cell, a.Seen, a.Left, no)
			}
		}
		return api.OK
	}
	var events []api.Event
	for _, s := range t.with.Starts {
		events = append(events, api.Event{Who: t.with.Workers, Kind: api.EvInsert, Task: api.Task{Key: s.Label, Load: uint64(s.Vertex)}}, api.Event{Who: t.with.Workers, Kind: api.EvInserted})
	}
	events = append(events, t.crew.History()...)
	if len(events) > 2000 {
		return api.ErrMany
	}
	spans, _, _ := history.Spans(events)
	order, bag, _ := history.Bag(spans)
	yes := map[bool]string{true: "yes", false: "no"}
	switch {
	case o.Kind == api.JobRanks:
		r, _ := history.Ranks(spans, order)
		t.say("ranks %d %d %d %d %d", r.Takes, r.Worst, r.Total, int(1000*r.Mean), int(1000*r.Var))
		return api.OK
	case t.with.Pool == api.PoolRing:
		_, queue, _ := history.Queue(spans)
		t.say("history %d bag %s queue %s", len(spans), yes[bag], yes[queue])
	default:
		t.say("history %d bag %s", len(spans), yes[bag])
	}
	s, _ := history.Show(events)
	t.out.WriteString(s)
	return api.OK
}

func (t *teller) ofGraph(o api.Order, g api.Graph) api.Errno {
	switch o.Kind {
	case api.JobDump:
		b, _ := pack.Encode(api.File{Name: o.Name, Graph: g})
		t.say("dump %d", len(b))
		for ; len(b) > 32; b = b[32:] {
			t.say("%x", b[:32])
		}
		t.say("%x", b)
	case api.JobStats:
		degree, reach, heavy := 0, 0, uint64(0)
		for v := range g.N {
			count := 0
			for range graph.Row(g, v) {
				count++
			}
			degree = max(degree, count)
		}
		if g.N > 0 {
			l, _ := graph.Reach(g, []int{0})
			for _, is := range l {
				if is {
					reach++
				}
			}
		}
		for _, w := range g.Weight {
			heavy = max(heavy, w)
		}
		t.say("stats %s %d %d %d %d %d", o.Name, g.N, len(g.To), degree, reach, heavy)
	case api.JobStrong:
		parts, _ := strong.Parts(g)
		different := map[int]bool{}
		for _, p := range parts {
			different[p] = true
		}
		t.say("strong %s %d", o.Name, len(different))
		for v, p := range parts {
			t.say("%d %d", v+1, p+1)
		}
		if order, e := strong.Order(g); e == api.ErrOrder {
			t.say("circle")
		} else {
			line := "order"
			for _, v := range order {
				line += fmt.Sprintf(" %d", v+1)
			}
			t.say("%s", line)
		}
	default:
		return t.way(o, g)
	}
	return api.OK
}

func (t *teller) way(o api.Order, g api.Graph) api.Errno {
	for _, v := range o.Nums {
		if v == 0 || v > uint64(g.N) {
			return api.ErrVertex
		}
	}
	from, to := int(o.Nums[0]-1), int(o.Nums[1]-1)
	if o.Kind == api.JobSeek {
		way, e := seek.Both(g, t.plan.Kind, from, to)
		if e != api.OK {
			return e
		}
		if t.plan.Kind != api.KindSum {
			t.say("seek %d", way.Label)
			return api.OK
		}
		at, _ := seek.Far(g, from, 2)
		marks, _ := seek.Mark(g, at)
		guided, _ := seek.Guided(g, marks, from, to)
		t.say("seek %d guided %d", way.Label, guided.Label)
		return api.OK
	}
	order, e := ladder.Easy(g)
	if e != api.OK {
		return e
	}
	l, e := ladder.Build(g, t.plan.Kind, order)
	if e != api.OK {
		return e
	}
	label, rungs, e := ladder.Climb(l, from, to)
	if e != api.OK {
		return e
	}
	edges, _ := ladder.Unfold(l, rungs)
	length, _ := route.Length(g, t.plan.Kind, 0, edges)
	t.say("ladder %d %d %d", len(l.Rungs), label, length)
	return api.OK
}

// someGraph is the lines of a small graph.
func someGraph(r *rand.Rand, name string) string {
	n := r.Intn(7)
	m := 0
	if n > 0 {
		m = r.Intn(3 * n)
	}
	s := fmt.Sprintf("graph %s\np sp %d %d\n", name, n, m)
	for range m {
		s += fmt.Sprintf("a %d %d %d\n", 1+r.Intn(n), 1+r.Intn(n), r.Intn(9))
	}
	return s + "end\n"
}

// somePlan is a plan of any pool; roomy: with room for all tasks that a small graph may bring.
func somePlan(r *rand.Rand, roomy bool) string {
	keep, room := "", 128
	if r.Intn(2) == 0 {
		keep = " keep"
	}
	if !roomy {
		room = r.Intn(12)
	}
	s := fmt.Sprintf("plan %s workers %d pool ", []string{"sum", "hops", "max", "label"}[r.Intn(4)], 1+r.Intn(3))
	switch r.Intn(4) {
	case 0:
		s += fmt.Sprintf("multi per %d cap %d arity %d in %d out %d stick %d tries %d seed %d", 1+r.Intn(2), room, 2+r.Intn(2), r.Intn(3), 1+r.Intn(2), 1+r.Intn(2), 1+r.Intn(2), r.Intn(9))
	case 1:
		s += fmt.Sprintf("ring cap %d seed 0", room)
	case 2:
		s += fmt.Sprintf("steal cap %d tries %d seed %d", room, 1+r.Intn(3), r.Intn(9))
	case 3:
		s += fmt.Sprintf("bucket slots %d cap %d width %d seed 0", 1+r.Intn(4), room, 1+r.Intn(4))
	}
	return s + keep + "\n"
}

// someQuestion is an order that tells something.
func someQuestion(r *rand.Rand) string {
	g := []string{"g", "g", "g", "g", "h", "h", "k"}[r.Intn(7)]
	v := func() int { return max(0, r.Intn(7)-r.Intn(2)) }
	switch r.Intn(24) {
	case 0:
		return fmt.Sprintf("path %d\n", v())
	case 1, 2:
		return "view\n"
	case 3:
		return "labels\n"
	case 4:
		return "check\n"
	case 5:
		return "voucher\n"
	case 6:
		return "history\n"
	case 7:
		return "ranks\n"
	case 8:
		return fmt.Sprintf("log %d\n", r.Intn(40))
	case 9:
		return "dump " + g + "\n"
	case 10:
		return "stats " + g + "\n"
	case 11:
		return "strong " + g + "\n"
	case 12:
		return fmt.Sprintf("seek %s from %d to %d\n", g, 1+r.Intn(3), 1+r.Intn(3))
	case 13:
		return fmt.Sprintf("ladder %s from %d to %d\n", g, 1+r.Intn(3), 1+r.Intn(3))
	case 14, 15, 16:
		return fmt.Sprintf("step %d\n", r.Intn(60))
	case 17, 18:
		return "finish\n"
	case 19:
		return fmt.Sprintf("serial %s from %d\n", g, v())
	}
	return "\n"
}

// someJob is a job of graphs, plans, runs and questions, of which most are not refused.
func someJob(r *rand.Rand, roomy bool) string {
	s := someGraph(r, "g")
	if r.Intn(2) == 0 {
		s += someGraph(r, "h")
	}
	for range 1 + r.Intn(2) {
		if r.Intn(40) > 0 { // the first plan's ring is a great one
			s += somePlan(r, roomy)
		}
		if r.Intn(2) == 0 {
			s += fmt.Sprintf("words %d %d %d %d\n", r.Intn(3), r.Uint64(), r.Uint64(), r.Uint64())
		}
		for range r.Intn(3) {
			s += "picks"
			for range r.Intn(60) {
				s += fmt.Sprint(" ", r.Intn(4))
			}
			s += "\n"
		}
		if roomy && r.Intn(4) == 0 {
			s += "live g from 1\n"
		}
		s += "run g from " + []string{"1", "1", "2", "3"}[r.Intn(4)] + "\n"
		if r.Intn(2) == 0 {
			s += "finish\n"
		}
		for range r.Intn(7) {
			s += someQuestion(r)
		}
	}
	if r.Intn(6) == 0 {
		s += []string{"nonsense\n", "view x\n", "graph z\n", "picks 0 01"}[r.Intn(4)]
	}
	return s
}

func TestRunAsTold(t *testing.T) {
	r := rand.New(rand.NewSource(5))
	refused, lines := map[string]int{}, map[string]int{}
	for i := range 6000 {
		s := someJob(r, i%2 == 0)
		want := reportTold(s)
		if got := job.Run(s); got != want {
			t.Fatalf("J4: Run(%q) =\n%s\nwant\n%s", s, got, want)
		}
		for l := range strings.Lines(want) {
			words := strings.Fields(l)
			if words[0] == "error" {
				refused[words[3]]++
			} else {
				lines[words[0]]++
				if len(words) > 1 {
					lines[words[0]+" "+words[1]]++
				}
			}
		}
	}
	for _, name := range []string{"name", "state", "vertex", "reach", "kind", "shape", "full", "command", "line", "digits"} {
		if refused[name] < 10 {
			t.Errorf("the error %s came up only %d times", name, refused[name])
		}
	}
	for _, word := range []string{"graph", "run open", "run done", "run failed", "live done", "serial", "labels", "path", "view", "worker", "task", "check right", "voucher", "history", "ranks", "log", "dump", "stats", "strong", "order", "circle", "seek", "ladder"} {
		if lines[word] < 20 {
			t.Errorf("the answer %s came up only %d times", word, lines[word])
		}
	}
}
