package history_test

import (
	"math"
	"math/rand"
	"slices"
	"testing"

	"wayfare/api"
	"wayfare/history"
)

func pair(key, load uint64) api.Task { return api.Task{Key: key, Load: load} }

// event: At, Who, Kind, and a key and a load.
func event(at, who, kind int, task ...uint64) api.Event {
	x := api.Event{At: at, Who: who, Kind: kind}
	if len(task) == 2 {
		x.Task = pair(task[0], task[1])
	}
	return x
}

// Events whose At does not matter.
func insert(who int, key, load uint64) api.Event { return event(0, who, api.EvInsert, key, load) }
func inserted(who int) api.Event                 { return event(0, who, api.EvInserted) }
func take(who int) api.Event                     { return event(0, who, api.EvTake) }
func task(who int, key, load uint64) api.Event   { return event(0, who, api.EvTask, key, load) }
func empty(who int) api.Event                    { return event(0, who, api.EvEmpty) }
func full(who int) api.Event                     { return event(0, who, api.EvFull) }

func spansOf(t *testing.T, events ...api.Event) []api.Span {
	t.Helper()
	s, e, at := history.Spans(events)
	if e != api.OK || at != 0 {
		t.Fatalf("H2: Spans(%v) = %d at %d", events, e, at)
	}
	return s
}

func wantBag(t *testing.T, spans []api.Span, want bool, order ...int) {
	t.Helper()
	o, ok, e := history.Bag(spans)
	if !slices.Equal(o, order) || ok != want || e != api.OK {
		t.Errorf("H3: Bag(%v) = %v, %v, %d, want %v, %v", spans, o, ok, e, order, want)
	}
}

// wantQueue looks that Queue tells turns just if want says so, and that these bear the history out.
func wantQueue(t *testing.T, spans []api.Span, want bool) {
	t.Helper()
	o, ok, e := history.Queue(spans)
	if ok != want || e != api.OK || !ok && len(o) > 0 || ok && !bears(spans, o, true) {
		t.Errorf("H5: Queue(%v) = %v, %v, %d, want %v", spans, o, ok, e, want)
	}
}

func wantWhy(t *testing.T, spans []api.Span, want api.Pattern) {
	t.Helper()
	p, found, e := history.Why(spans)
	if p != want || found != (want != api.Pattern{}) || e != api.OK {
		t.Errorf("H4: Why(%v) = %v, %v, %d, want %v", spans, p, found, e, want)
	}
	wantQueue(t, spans, want == api.Pattern{})
}

func fresh(a int) api.Pattern    { return api.Pattern{Kind: api.PatFresh, A: a, B: -1} }
func twice(a, b int) api.Pattern { return api.Pattern{Kind: api.PatTwice, A: a, B: b} }
func order(a, b int) api.Pattern { return api.Pattern{Kind: api.PatOrder, A: a, B: b} }

// exampleA to both are the histories of the chapter's examples.
func exampleA() []api.Event {
	return []api.Event{event(0, 0, 1, 5, 1), event(3, 1, 3), event(6, 0, 2), event(9, 1, 4, 5, 1), event(9, 1, 3), event(12, 1, 5)}
}

// both: who 0 inserts (1, 1) and (2, 2), who 1 takes (2, 2).
func both() []api.Event {
	return []api.Event{insert(0, 1, 1), inserted(0), insert(0, 2, 2), inserted(0), take(1), task(1, 2, 2)}
}

func TestExampleA(t *testing.T) {
	s := spansOf(t, exampleA()...)
	want := []api.Span{
		{Who: 0, Insert: true, Task: pair(5, 1), Begin: 0, End: 2, Kind: api.EvInserted},
		{Who: 1, Task: pair(5, 1), Begin: 1, End: 3, Kind: api.EvTask},
		{Who: 1, Begin: 4, End: 5, Kind: api.EvEmpty},
	}
	if !slices.Equal(s, want) {
		t.Errorf("H2: %v, want %v", s, want)
	}
	wantBag(t, s, true, 0, 1)
	wantWhy(t, s, api.Pattern{})
	if o, _, _ := history.Queue(s); !slices.Equal(o, []int{0, 1}) {
		t.Errorf("H5: %v", o)
	}
	wantRank(t, s, []int{0, 1}, api.Rank{Takes: 1})
}

func TestExampleB(t *testing.T) {
	s := spansOf(t, append(both(), take(1), task(1, 1, 1))...)
	wantBag(t, s, true, 0, 1, 2, 3)
	wantWhy(t, s, order(0, 1))
	wantRank(t, s, []int{0, 1, 2, 3}, api.Rank{Takes: 2, Worst: 1, Total: 1, Mean: 0.5, Var: 0.25})
}

func TestExampleC(t *testing.T) {
	wantWhy(t, spansOf(t, both()...), order(0, 1))
	for at := range 6 {
		s := spansOf(t, slices.Insert(both(), at, take(2))...)
		wantWhy(t, s, api.Pattern{})
	}
	s := spansOf(t, slices.Insert(both(), 5, take(2))...) // 2 is the removal of who 1, 3 the open one
	if o, _, _ := history.Queue(s); !slices.Equal(o, []int{0, 1, 3, 2}) && !slices.Equal(o, []int{0, 3, 1, 2}) {
		t.Errorf("H5: %v", o)
	}
	wantWhy(t, spansOf(t, append(both(), take(2))...), order(0, 1))
}

func TestExampleD(t *testing.T) {
	s := spansOf(t, take(0), task(0, 9, 9))
	wantWhy(t, s, fresh(0))
	wantBag(t, s, false)
}

func wantNoHistory(t *testing.T, at int, events ...api.Event) {
	t.Helper()
	if s, e, bad := history.Spans(events); s != nil || e != api.ErrEvents || bad != at {
		t.Errorf("H2: Spans(%v) = %v, %d, %d, want ErrEvents at %d", events, s, e, bad, at)
	}
}

func TestExampleE(t *testing.T) {
	wantNoHistory(t, 0, inserted(0))
	wantNoHistory(t, 1, insert(0, 1, 1), take(0))
	wantNoHistory(t, 1, event(5, 0, api.EvTake), event(4, 0, api.EvEmpty))
}

// TestNoHistory: each reason, alone and behind events that are right.
func TestNoHistory(t *testing.T) {
	for _, x := range []api.Event{
		event(9, -1, api.EvTake), event(9, math.MinInt, api.EvInsert, 1, 1),
		event(9, 0, 0), event(9, 0, 7), event(9, 0, -1), event(9, 0, math.MaxInt),
		event(-1, 0, api.EvTake), event(math.MinInt, 0, api.EvTake),
		event(9, 0, api.EvTake, 1, 0), event(9, 0, api.EvTake, 0, 1),
		event(9, 0, api.EvInserted), event(9, 0, api.EvTask, 1, 1), event(9, 0, api.EvEmpty), event(9, 0, api.EvFull),
	} {
		wantNoHistory(t, 0, x)
		wantNoHistory(t, 0, x, x, event(0, 0, 0))
		wantNoHistory(t, 6, append(exampleA()[:6:6], x)...)
	}
	for _, x := range []api.Event{
		event(0, 0, api.EvInsert, 2, 2), event(0, 0, api.EvTake), event(0, 0, api.EvTask, 1, 1), event(0, 0, api.EvEmpty), event(0, 1, api.EvInserted), event(0, 1, api.EvFull),
		event(0, 0, api.EvInserted, 1, 0), event(0, 0, api.EvInserted, 0, 1), event(0, 0, api.EvFull, 1, 1), event(-1, 0, api.EvInserted),
	} {
		wantNoHistory(t, 1, insert(0, 1, 1), x)
	}
	for _, x := range []api.Event{
		event(0, 0, api.EvInsert, 2, 2), event(0, 0, api.EvTake), event(0, 0, api.EvInserted), event(0, 1, api.EvTask, 1, 1), event(0, 1, api.EvEmpty), event(0, 1, api.EvFull),
		event(0, 0, api.EvEmpty, 1, 0), event(0, 0, api.EvEmpty, 0, 1), event(0, 0, api.EvFull, 0, 1), event(-1, 0, api.EvEmpty),
	} {
		wantNoHistory(t, 1, take(0), x)
	}
	for _, kind := range []int{api.EvInserted, api.EvFull, api.EvTask, api.EvEmpty} { // what has ended does not end again
		wantNoHistory(t, 2, insert(0, 1, 1), inserted(0), event(0, 0, kind))
		wantNoHistory(t, 2, insert(0, 1, 1), full(0), event(0, 0, kind))
		wantNoHistory(t, 2, take(0), task(0, 1, 1), event(0, 0, kind))
		wantNoHistory(t, 2, take(0), empty(0), event(0, 0, kind))
		wantNoHistory(t, 2, take(0), full(0), event(0, 0, kind))
	}
	wantNoHistory(t, 3, event(4, 0, api.EvTake), event(5, 0, api.EvEmpty), event(5, 1, api.EvTake), event(4, 1, api.EvEmpty))
}

func TestHistories(t *testing.T) {
	if s := spansOf(t); len(s) != 0 {
		t.Errorf("H2: of no events: %v", s)
	}
	wantSpans := func(want []api.Span, events ...api.Event) {
		t.Helper()
		if s := spansOf(t, events...); !slices.Equal(s, want) {
			t.Errorf("H2: Spans(%v) = %v, want %v", events, s, want)
		}
	}
	// At may stand still, and be great; so may Who be
	wantSpans([]api.Span{{Who: math.MaxInt, Begin: 0, End: 2, Kind: api.EvFull}, {Who: 7, Insert: true, Task: pair(0, api.Never), Begin: 1, End: -1}},
		event(math.MaxInt, math.MaxInt, api.EvTake), event(math.MaxInt, 7, api.EvInsert, 0, api.Never), event(math.MaxInt, math.MaxInt, api.EvFull))
	// a task of an event that is {0, 0}
	wantSpans([]api.Span{{Insert: true, Begin: 0, End: 1, Kind: api.EvInserted}, {Begin: 2, End: 3, Kind: api.EvTask}}, insert(0, 0, 0), inserted(0), take(0), task(0, 0, 0))
	// what no room was found for keeps its task; a removal has none
	wantSpans([]api.Span{{Insert: true, Task: pair(3, 4), Begin: 0, End: 2, Kind: api.EvFull}, {Who: 1, Begin: 1, End: 3, Kind: api.EvFull}}, insert(0, 3, 4), take(1), full(0), full(1))
}

// TestAnyEvents holds Spans against the telling, whatever is given.
func TestAnyEvents(t *testing.T) {
	r := rand.New(rand.NewSource(1))
	right, wrong := 0, 0
	for range 40000 {
		events := byChance(r, r.Intn(12), 1+r.Intn(4), 4)
		if len(events) > 0 && r.Intn(2) == 0 {
			spoilEvent(r, &events[r.Intn(len(events))])
		}
		s, e, at := history.Spans(events)
		if bad := isHistory(events); bad >= 0 {
			wrong++
			if s != nil || e != api.ErrEvents || at != bad {
				t.Fatalf("H2: Spans(%v) = %v, %d, %d, want ErrEvents at %d", events, s, e, at, bad)
			}
			continue
		}
		right++
		if e != api.OK || at != 0 || !slices.Equal(s, spanned(events)) {
			t.Fatalf("H2: Spans(%v) = %v, %d, %d, want %v", events, s, e, at, spanned(events))
		}
	}
	if right < 10000 || wrong < 10000 {
		t.Errorf("%d are histories, %d are none", right, wrong)
	}
}

func spoilEvent(r *rand.Rand, x *api.Event) {
	odd := []int{-1, 0, 1, 2, 3, 4, 5, 6, 7, math.MaxInt, math.MinInt}[r.Intn(11)]
	switch r.Intn(4) {
	case 0:
		x.At = odd
	case 1:
		x.Who = odd
	case 2:
		x.Kind = odd
	case 3:
		x.Task.Load = uint64(odd)
	}
}

// TestManyEvents: just MaxEvents, and one more; a fault far behind them comes first.
func TestManyEvents(t *testing.T) {
	events := slices.Repeat([]api.Event{take(0), empty(0)}, api.MaxEvents/2)
	if s := spansOf(t, events...); len(s) != api.MaxEvents/2 {
		t.Errorf("H2: %d spans", len(s))
	}
	events = append(events, take(0))
	if s, e, at := history.Spans(events); s != nil || e != api.ErrMany || at != 0 {
		t.Errorf("H2: one more: %v, %d, %d", s, e, at)
	}
	wantNoHistory(t, len(events), append(events, take(0))...)
	var open []api.Event
	for i := range api.MaxEvents {
		open = append(open, insert(i, 1, uint64(i)))
	}
	if s := spansOf(t, open...); len(s) != api.MaxEvents {
		t.Errorf("H2: %d spans", len(s))
	}
}
