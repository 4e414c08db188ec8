package history_test

import (
	"math"
	"math/rand"
	"slices"
	"testing"

	"wayfare/api"
	"wayfare/history"
)

// TestBags: the turns that the chapter tells, or none.
func TestBags(t *testing.T) {
	for _, c := range []struct {
		what   string
		events []api.Event
		want   bool
		order  []int
	}{
		{"nothing", nil, true, nil},
		{"nothing that counts", []api.Event{insert(0, 1, 1), take(1), full(0), full(1), take(1), empty(1)}, true, nil},
		{"taken while it is put in", []api.Event{take(1), insert(0, 1, 1), task(1, 1, 1), inserted(0)}, true, []int{1, 0}},
		{"taken ahead of its begin", []api.Event{take(1), task(1, 1, 1), insert(0, 1, 1), inserted(0)}, false, nil},
		{"nobody put it in", []api.Event{insert(0, 1, 1), inserted(0), take(1), task(1, 1, 2)}, false, nil},
		{"the same key, another load", []api.Event{insert(0, 1, 1), inserted(0), insert(0, 1, 2), inserted(0), take(1), task(1, 1, 2)}, true, []int{0, 1, 2}},
		{"taken twice", []api.Event{insert(0, 1, 1), inserted(0), take(1), task(1, 1, 1), take(1), task(1, 1, 1)}, false, nil},
		{"an open insertion that is taken", []api.Event{insert(0, 1, 1), take(1), task(1, 1, 1)}, true, []int{0, 1}},
		{"an open insertion that is not taken", []api.Event{insert(0, 1, 1), insert(1, 2, 2), inserted(1)}, true, []int{1}},
		{"no room for it, and yet taken", []api.Event{insert(0, 1, 1), full(0), take(1), task(1, 1, 1)}, false, nil},
		{"no room, put in once more", []api.Event{insert(0, 1, 1), full(0), insert(0, 1, 1), inserted(0), take(1), task(1, 1, 1)}, true, []int{1, 2}},
		{"open removals are left out", []api.Event{insert(0, 1, 1), inserted(0), take(1)}, true, []int{0}},
		{"insertions at their begins, removals at their ends", []api.Event{take(0), take(1), insert(2, 1, 1), insert(3, 2, 2), inserted(3), task(1, 1, 1), inserted(2), task(0, 2, 2)}, true, []int{2, 3, 1, 0}},
	} {
		s := spansOf(t, c.events...)
		o, ok, e := history.Bag(s)
		if !slices.Equal(o, c.order) || ok != c.want || e != api.OK {
			t.Errorf("H3: %s: %v, %v, %d, want %v, %v", c.what, o, ok, e, c.order, c.want)
		}
	}
}

// TestFollow: each thing for which turns bear nothing out.
func TestFollow(t *testing.T) {
	// 0 inserts (1, 1); 1 inserts (2, 2), open; 2 takes (1, 1); 3 is an open removal; 4 found no room; 5 found nothing
	s := spansOf(t, insert(0, 1, 1), insert(1, 2, 2), inserted(0), take(2), take(3), task(2, 1, 1), insert(4, 3, 3), full(4), take(5), empty(5), take(6), full(6))
	for _, c := range []struct {
		what       string
		order      []int
		bag, queue bool
	}{
		{"what counts", []int{0, 2}, true, true},
		{"an open insertion behind", []int{0, 2, 1}, true, true},
		{"an open insertion between", []int{0, 1, 2}, true, true},
		{"an open insertion ahead", []int{1, 0, 2}, true, false},
		{"an open removal", []int{0, 2, 1, 3}, false, true},
		{"an open removal takes whatever is first", []int{1, 0, 3, 2}, false, true},
		{"an open removal takes what another one should", []int{0, 3, 2}, false, false},
		{"an open removal finds nothing", []int{0, 2, 3}, false, false},
		{"nothing stands", nil, false, false},
		{"one is missing", []int{0}, false, false},
		{"the other one is missing", []int{2}, false, false},
		{"one stands twice", []int{0, 0, 2}, false, false},
		{"an open one stands twice", []int{0, 1, 1, 2}, false, false},
		{"behind what it is ahead of", []int{2, 0}, false, false},
		{"no span's number", []int{0, 2, 7}, false, false},
		{"a number below 0", []int{-1, 0, 2}, false, false},
		{"the least number", []int{0, 2, math.MinInt}, false, false},
		{"the greatest number", []int{0, 2, math.MaxInt}, false, false},
		{"one that found no room", []int{0, 2, 4}, false, false},
		{"a removal that found nothing", []int{0, 2, 1, 5}, false, false},
		{"a removal that found no room", []int{0, 2, 1, 6}, false, false},
	} {
		if ok, e := history.Follow(s, c.order, false); ok != c.bag || e != api.OK {
			t.Errorf("H6: as a bag's: %s: %v, %d", c.what, ok, e)
		}
		if ok, e := history.Follow(s, c.order, true); ok != c.queue || e != api.OK {
			t.Errorf("H6: as a queue's: %s: %v, %d", c.what, ok, e)
		}
	}
	for _, queue := range []bool{false, true} {
		if ok, e := history.Follow(nil, nil, queue); !ok || e != api.OK {
			t.Errorf("H6: nothing by nothing: %v, %d", ok, e)
		}
		if ok, e := history.Follow(nil, []int{0}, queue); ok || e != api.OK {
			t.Errorf("H6: nothing by one: %v, %d", ok, e)
		}
	}
	apart := spansOf(t, insert(0, 1, 1), inserted(0), insert(0, 2, 2), inserted(0))
	if ok, _ := history.Follow(apart, []int{1, 0}, false); ok {
		t.Error("H6: insertions the other way round")
	}
	touching := spansOf(t, insert(0, 1, 1), insert(1, 2, 2), inserted(0), inserted(1))
	if ok, _ := history.Follow(touching, []int{1, 0}, true); !ok {
		t.Error("H6: insertions at the same time may stand either way")
	}
}

// TestFollowAnyOrder holds Follow against the telling: all orders of a few spans, and orders by chance of more.
func TestFollowAnyOrder(t *testing.T) {
	r := rand.New(rand.NewSource(3))
	held := [2]int{}
	look := func(spans []api.Span, order []int) {
		for i, queue := range []bool{false, true} {
			ok, e := history.Follow(spans, order, queue)
			if want := bears(spans, order, queue); ok != want || e != api.OK {
				t.Fatalf("H6: Follow(%v, %v, %v) = %v, %d, want %v", spans, order, queue, ok, e, want)
			}
			if ok {
				held[i]++
			}
		}
	}
	for range 3000 {
		spans := spansOf(t, byChance(r, 1+r.Intn(8), 1+r.Intn(4), 20)...)
		if refusal(spans) != api.OK {
			continue
		}
		if len(spans) <= 4 {
			everyOrder(len(spans), nil, func(order []int) { look(spans, order) })
		}
		order := r.Perm(len(spans))
		look(spans, order[:r.Intn(len(order)+1)])
	}
	if held[0] < 1000 || held[1] < 1000 {
		t.Errorf("%v orders bear a history out", held)
	}
}

// everyOrder hands over all lists of numbers below n, of each at most one.
func everyOrder(n int, order []int, look func([]int)) {
	look(order)
	for i := range n {
		if !slices.Contains(order, i) {
			everyOrder(n, append(slices.Clone(order), i), look)
		}
	}
}

// wantAll holds Bag, Why and Queue of a small history against the tellings and a search of all orders; it tells whether there are turns of a bag, and of a queue.
func wantAll(t *testing.T, spans []api.Span) (bool, bool) {
	t.Helper()
	isBag, isQueue := someTurns(spans, false), someTurns(spans, true)
	o, ok, e := history.Bag(spans)
	if ok != isBag || e != api.OK || ok && (!bears(spans, o, false) || !slices.Equal(o, widest(spans))) || !ok && o != nil {
		t.Fatalf("H3: Bag(%v) = %v, %v, %d, and that there are turns is %v", spans, o, ok, e, isBag)
	}
	want, _ := whyNot(spans)
	p, found, e := history.Why(spans)
	if p != want || found != (want.Kind != 0) || e != api.OK {
		t.Fatalf("H4: Why(%v) = %v, %v, %d, want %v", spans, p, found, e, want)
	}
	if found == isQueue {
		t.Fatalf("H10: Why(%v) = %v, and that there are turns is %v", spans, p, isQueue)
	}
	o, ok, e = history.Queue(spans)
	if ok != isQueue || e != api.OK || ok && !bears(spans, o, true) || !ok && o != nil {
		t.Fatalf("H5: Queue(%v) = %v, %v, %d, and that there are turns is %v", spans, o, ok, e, isQueue)
	}
	if fine, _ := history.Follow(spans, o, true); ok && !fine {
		t.Fatalf("H6: Follow says no to Queue's turns %v of %v", o, spans)
	}
	if isQueue && !isBag {
		t.Fatalf("H11: %v is a queue's, and none of a bag", spans)
	}
	return isBag, isQueue
}

// widest are the turns of H3, by rising moment.
func widest(spans []api.Span) []int {
	var out []int
	at := func(i int) int {
		if spans[i].Insert {
			return spans[i].Begin
		}
		return spans[i].End
	}
	for i, s := range spans {
		if mustStand(s) || insertion(s) && removerOf(spans, i) >= 0 {
			out = append(out, i)
		}
	}
	slices.SortFunc(out, func(i, j int) int { return at(i) - at(j) })
	return out
}

// TestEveryHistory: all histories of up to eight events in which each operation has a who of its own. The k-th insertion is that of (k, k); what is taken is one of these, or of the next, which is not there.
func TestEveryHistory(t *testing.T) {
	seen, bags, queues := 0, 0, 0
	var more func(events []api.Event, open []int, inserts int)
	more = func(events []api.Event, open []int, inserts int) {
		isBag, isQueue := wantAll(t, spansOf(t, events...))
		seen++
		if isBag {
			bags++
		}
		if isQueue {
			queues++
		}
		if len(events) == 8 {
			return
		}
		who, last := len(open), len(events)
		events = append(slices.Clone(events), api.Event{})
		open = append(slices.Clone(open), 0)
		begin := func(x api.Event, inserts int) {
			events[last], open[who] = x, x.Kind
			more(events, open, inserts)
		}
		begin(insert(who, uint64(inserts), uint64(inserts)), inserts+1)
		begin(take(who), inserts)
		for i, kind := range open[:who] {
			rest := slices.Replace(slices.Clone(open[:who]), i, i+1, 0)
			end := func(x api.Event) {
				events[last] = x
				more(events, rest, inserts)
			}
			switch kind {
			case api.EvInsert:
				end(inserted(i))
			case api.EvTake:
				for k := range uint64(inserts + 1) {
					end(task(i, k, k))
				}
			}
		}
	}
	more(nil, nil, 0)
	if seen < 10000 || bags < seen/10 || queues < seen/10 || queues == bags {
		t.Errorf("of %d histories %d are a bag's, %d a queue's", seen, bags, queues)
	}
}

// TestHistoriesByChance: greater ones, with all kinds of ends; and their fronts.
func TestHistoriesByChance(t *testing.T) {
	r := rand.New(rand.NewSource(4))
	var bags, queues, none, refused int
	for range 4000 {
		events := byChance(r, 1+r.Intn(18), 1+r.Intn(5), 40)
		spans := spansOf(t, events...)
		if want := refusal(spans); want != api.OK {
			refused++
			wantRefused(t, spans, want)
			continue
		}
		isBag, isQueue := wantAll(t, spans)
		wantFronts(t, events, isBag, isQueue)
		switch {
		case isQueue:
			queues++
		case isBag:
			bags++
		default:
			none++
		}
	}
	if bags < 100 || queues < 500 || none < 100 || refused < 50 {
		t.Errorf("%d are a queue's, %d a bag's alone, %d none, %d refused", queues, bags, none, refused)
	}
}

// wantFronts looks at the first events alone.
func wantFronts(t *testing.T, events []api.Event, isBag, isQueue bool) {
	t.Helper()
	for n := range events {
		front := spansOf(t, events[:n]...)
		if _, ok, e := history.Bag(front); isBag && !ok && e != api.ErrTwice {
			t.Fatalf("H12: %v is a bag's, and not its first %d", events, n)
		}
		if _, ok, e := history.Queue(front); isQueue && !ok && e != api.ErrTwice {
			t.Fatalf("H12: %v is a queue's, and not its first %d", events, n)
		}
	}
}

// TestFrontsThatAreRefused: an insertion that finds no room counts no longer; while it was open, it did.
func TestFrontsThatAreRefused(t *testing.T) {
	events := []api.Event{insert(0, 1, 1), insert(1, 1, 1), full(0), inserted(1), take(0), task(0, 1, 1)}
	for n := range len(events) + 1 {
		spans := spansOf(t, events[:n]...)
		_, isBag, e := history.Bag(spans)
		_, isQueue, f := history.Queue(spans)
		if want := n != 2; isBag != want || isQueue != want || e != f || (e == api.OK) != want || !want && e != api.ErrTwice {
			t.Errorf("H12: the first %d: %v, %d, %v, %d", n, isBag, e, isQueue, f)
		}
	}
}

// served is a history of a queue that was served in turns: each operation has its turn somewhere between its begin and its end.
func served(r *rand.Rand, events, whos int) []api.Event {
	var out []api.Event
	var queue []api.Task
	ends := make([]api.Event, whos) // what an operation will end with, once it has had its turn
	begun := make([]api.Event, whos)
	for len(out) < events {
		who := r.Intn(whos)
		switch b := begun[who]; {
		case b.Kind == 0:
			begun[who] = []api.Event{insert(who, uint64(r.Intn(5)), uint64(len(out))), take(who)}[r.Intn(2)]
			out = append(out, begun[who])
		case ends[who].Kind != 0:
			out = append(out, ends[who])
			begun[who], ends[who] = api.Event{}, api.Event{}
		case b.Kind == api.EvInsert:
			queue = append(queue, b.Task)
			ends[who] = inserted(who)
		case len(queue) > 0:
			ends[who] = task(who, queue[0].Key, queue[0].Load)
			queue = queue[1:]
		default:
			ends[who] = empty(who)
		}
	}
	return out
}

// TestServed: what was served in turns is a queue's, however many were at it.
func TestServed(t *testing.T) {
	r := rand.New(rand.NewSource(5))
	for range 150 {
		wantWhy(t, spansOf(t, served(r, 1+r.Intn(60), 1+r.Intn(9))...), api.Pattern{})
	}
	for _, whos := range []int{1, 3, 30, 300} {
		spans := spansOf(t, served(r, api.MaxEvents, whos)...)
		wantWhy(t, spans, api.Pattern{})
		o, ok, e := history.Bag(spans)
		if !ok || e != api.OK || !slices.Equal(o, widest(spans)) || !bears(spans, o, false) {
			t.Errorf("H11: by %d: %v, %d", whos, ok, e)
		}
	}
}

// unfinished takes ends out of a history: what its who goes on with is another's from there on. What bore it out does so still, with what is open now.
func unfinished(r *rand.Rand, events []api.Event, odds int) []api.Event {
	var out []api.Event
	as := map[int]int{}
	fresh := 1000
	for _, x := range events {
		who, known := as[x.Who]
		if !known {
			who = x.Who
		}
		begins := x.Kind == api.EvInsert || x.Kind == api.EvTake
		if !begins && r.Intn(odds) == 0 {
			as[x.Who], fresh = fresh, fresh+1
			continue
		}
		x.Who = who
		out = append(out, x)
	}
	return out
}

// TestUnfinished: overtaken tasks that open removals must have taken, and open insertions whose tasks are taken.
func TestUnfinished(t *testing.T) {
	r := rand.New(rand.NewSource(6))
	needed := 0
	for i := range 400 {
		long := 1 + r.Intn(80)
		if i < 4 {
			long = api.MaxEvents
		}
		events := unfinished(r, served(r, long, 1+r.Intn(9)), 2+r.Intn(12))
		spans := spansOf(t, events...)
		wantWhy(t, spans, api.Pattern{})
		order, _, _ := history.Queue(spans)
		if slices.ContainsFunc(order, func(i int) bool { return !spans[i].Insert && spans[i].End < 0 }) {
			needed++
		}
		if long > 80 {
			continue
		}
		// with an event less there may be none: then for the reason that is told
		at := r.Intn(len(events))
		events = slices.Delete(events, at, at+1)
		if isHistory(events) >= 0 {
			continue
		}
		if spans := spansOf(t, events...); refusal(spans) == api.OK {
			wantWhy(t, spans, first(whyNot(spans)))
		}
	}
	if needed < 100 {
		t.Errorf("only %d need an open removal", needed)
	}
}

// TestManyOpen: as many operations as can be, all at the same time.
func TestManyOpen(t *testing.T) {
	var events []api.Event
	for i := range api.MaxEvents / 4 {
		events = append(events, insert(i, 0, uint64(i)), take(api.MaxEvents+i))
	}
	for i := range api.MaxEvents / 4 {
		events = append(events, task(api.MaxEvents+i, 0, uint64(i)))
	}
	for i := range api.MaxEvents / 4 {
		events = append(events, inserted(i))
	}
	wantWhy(t, spansOf(t, events...), api.Pattern{})
	// each task but the last is overtaken, and an open removal is there for each
	events = nil
	n := api.MaxEvents / 3
	for i := range n {
		events = append(events, insert(0, 0, uint64(i)), inserted(0))
	}
	for i := range n {
		events = append(events, take(1+i))
	}
	events[len(events)-1] = take(0)
	events = append(events, task(0, 0, uint64(n-1)))
	spans := spansOf(t, events...)
	wantWhy(t, spans, api.Pattern{})
	if o, _, _ := history.Queue(spans); len(o) != 2*n {
		t.Errorf("H5: %d turns, want %d", len(o), 2*n)
	}
	wantWhy(t, spansOf(t, slices.Delete(events, 2*n, 2*n+1)...), order(n-2, n-1))
}
