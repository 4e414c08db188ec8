package history_test

import (
	"math"
	"math/rand"
	"slices"
	"testing"

	"wayfare/api"
	"wayfare/history"
)

// wantRefused looks at every call that has spans.
func wantRefused(t *testing.T, spans []api.Span, want api.Errno) {
	t.Helper()
	if o, ok, e := history.Bag(spans); o != nil || ok || e != want {
		t.Errorf("H3: Bag = %v, %v, %d, want %d", o, ok, e, want)
	}
	if o, ok, e := history.Queue(spans); o != nil || ok || e != want {
		t.Errorf("H5: Queue = %v, %v, %d, want %d", o, ok, e, want)
	}
	if p, found, e := history.Why(spans); p != (api.Pattern{}) || found || e != want {
		t.Errorf("H4: Why = %v, %v, %d, want %d", p, found, e, want)
	}
	for _, order := range [][]int{nil, {0}, {9, -9}} {
		for _, queue := range []bool{false, true} {
			if ok, e := history.Follow(spans, order, queue); ok || e != want {
				t.Errorf("H6: Follow = %v, %d, want %d", ok, e, want)
			}
		}
		if r, e := history.Ranks(spans, order); r != (api.Rank{}) || e != want {
			t.Errorf("H7: Ranks = %v, %d, want %d", r, e, want)
		}
	}
}

// three: who 0 inserts (1, 1), who 1 takes it, who 0 takes nothing.
func three() []api.Span {
	return []api.Span{
		{Who: 0, Insert: true, Task: pair(1, 1), Begin: 0, End: 2, Kind: api.EvInserted},
		{Who: 1, Task: pair(1, 1), Begin: 1, End: 3, Kind: api.EvTask},
		{Who: 0, Begin: 4, End: 5, Kind: api.EvEmpty},
	}
}

// TestNoSpans: each reason for which spans are none of a history.
func TestNoSpans(t *testing.T) {
	for _, c := range []struct {
		what  string
		spoil func(s []api.Span)
	}{
		{"a moment is missing", func(s []api.Span) { s[2].End = 6 }},
		{"the first moment is missing", func(s []api.Span) { s[0].Begin = -1 }},
		{"a moment that is not missed, but far off", func(s []api.Span) { s[2].End = math.MaxInt }},
		{"a begin far off", func(s []api.Span) { s[2].Begin, s[2].End = math.MaxInt-1, math.MaxInt }},
		{"a moment stands twice, as two ends", func(s []api.Span) { s[0].End = 3 }},
		{"a moment stands twice, as two begins", func(s []api.Span) { s[1].Begin = 0 }},
		{"a moment stands twice, as begin and end", func(s []api.Span) { s[0].End = 1 }},
		{"begins do not rise", func(s []api.Span) { s[0], s[1] = s[1], s[0] }},
		{"an end at its begin", func(s []api.Span) { s[2].End = 4 }},
		{"an end ahead of its begin", func(s []api.Span) { s[2].Begin, s[2].End = 5, 4 }},
		{"an end below -1", func(s []api.Span) { s[2].End, s[2].Kind = -2, 0 }},
		{"the least end", func(s []api.Span) { s[2].End, s[2].Kind = math.MinInt, 0 }},
		{"a begin below 0", func(s []api.Span) { s[0].Begin = math.MinInt }},
		{"a who below 0", func(s []api.Span) { s[1].Who = -1 }},
		{"two of one who at the same time", func(s []api.Span) { s[1].Who = 0 }},
		{"an end without a kind", func(s []api.Span) { s[2].Kind = 0 }},
		{"a kind without an end", func(s []api.Span) { s[2].End = -1 }},
		{"an insertion that ends with a task", func(s []api.Span) { s[0].Kind = api.EvTask }},
		{"an insertion that ends without one", func(s []api.Span) { s[0].Kind = api.EvEmpty }},
		{"an insertion that ends by a begin", func(s []api.Span) { s[0].Kind = api.EvInsert }},
		{"a removal that ends as an insertion", func(s []api.Span) { s[1].Kind = api.EvInserted }},
		{"a removal that ends by a begin", func(s []api.Span) { s[2].Kind = api.EvTake }},
		{"a kind that is none", func(s []api.Span) { s[1].Kind = 7 }},
		{"a kind below 0", func(s []api.Span) { s[1].Kind = -1 }},
		{"a removal without a task has a key", func(s []api.Span) { s[2].Task.Key = 1 }},
		{"a removal without a task has a load", func(s []api.Span) { s[2].Task.Load = 1 }},
		{"a removal without room has a task", func(s []api.Span) { s[2].Kind, s[2].Task = api.EvFull, pair(1, 1) }},
		{"an open removal has a task", func(s []api.Span) { s[2].Kind, s[2].End, s[2].Task = 0, -1, pair(1, 1) }},
	} {
		s := three()
		c.spoil(s)
		if areSpans(s) {
			t.Errorf("%s: the telling lets it pass", c.what)
		}
		wantRefused(t, s, api.ErrEvents)
	}
	open := []api.Span{{Who: 3, Begin: 0, End: -1}, {Who: 3, Insert: true, Begin: 1, End: -1}}
	wantRefused(t, open, api.ErrEvents) // one who begins while another of his is open
	open[1].Who = 4
	wantBag(t, open, true)
	s := three()
	s[2].Kind = api.EvFull
	wantBag(t, s, true, 0, 1)
	s[2].Kind, s[2].End = 0, -1
	wantBag(t, s, true, 0, 1)
	s[0].Kind = api.EvFull
	wantBag(t, s, false)
}

// many are n moments of removals that find nothing, by one; a last one is open.
func many(n int) []api.Span {
	var out []api.Span
	for at := 0; at < n; at += 2 {
		out = append(out, api.Span{Begin: at, End: at + 1, Kind: api.EvEmpty})
	}
	if n%2 == 1 {
		out[len(out)-1].End, out[len(out)-1].Kind = -1, 0
	}
	return out
}

// TestErrorsInOrder: the first one of several.
func TestErrorsInOrder(t *testing.T) {
	wantBag(t, many(api.MaxEvents), true)
	wantBag(t, many(api.MaxEvents-1), true)
	wantRefused(t, many(api.MaxEvents+1), api.ErrMany)
	wantRefused(t, many(api.MaxEvents+2), api.ErrMany)
	twins := func(n int) []api.Span { // ahead of n moments
		s := []api.Span{{Who: 1, Insert: true, Begin: 0, End: -1}, {Who: 2, Insert: true, Begin: 1, End: -1}}
		for _, x := range many(n) {
			x.Begin += 2
			if x.End >= 0 {
				x.End += 2
			}
			s = append(s, x)
		}
		return s
	}
	wantRefused(t, twins(0), api.ErrTwice)
	wantRefused(t, twins(api.MaxEvents-2), api.ErrTwice)
	wantRefused(t, twins(api.MaxEvents-1), api.ErrMany)
	s := twins(api.MaxEvents)
	s[len(s)-1].Who = -1
	wantRefused(t, s, api.ErrEvents)
	s = twins(4)
	s[3].Kind = 0
	wantRefused(t, s, api.ErrEvents)
	var open []api.Span
	for i := range api.MaxEvents + 1 {
		open = append(open, api.Span{Who: i, Insert: true, Begin: i, End: -1, Task: pair(0, uint64(i))})
	}
	wantRefused(t, open, api.ErrMany)
	wantBag(t, open[:api.MaxEvents], true)
}

// TestTwins: which insertions of one task are two.
func TestTwins(t *testing.T) {
	for _, c := range []struct {
		what   string
		events []api.Event
		want   api.Errno
	}{
		{"both ended", []api.Event{insert(0, 1, 1), inserted(0), insert(0, 1, 1), inserted(0)}, api.ErrTwice},
		{"both open", []api.Event{insert(0, 1, 1), insert(1, 1, 1)}, api.ErrTwice},
		{"one open", []api.Event{insert(0, 1, 1), inserted(0), insert(1, 1, 1)}, api.ErrTwice},
		{"taken between", []api.Event{insert(0, 1, 1), inserted(0), take(0), task(0, 1, 1), insert(0, 1, 1), inserted(0)}, api.ErrTwice},
		{"no room for the first", []api.Event{insert(0, 1, 1), full(0), insert(0, 1, 1), inserted(0)}, api.OK},
		{"no room for the second", []api.Event{insert(0, 1, 1), insert(1, 1, 1), full(1)}, api.OK},
		{"no room for both", []api.Event{insert(0, 1, 1), full(0), insert(0, 1, 1), full(0)}, api.OK},
		{"another load", []api.Event{insert(0, 1, 1), insert(1, 1, 2)}, api.OK},
		{"another key", []api.Event{insert(0, 1, 1), insert(1, 2, 1)}, api.OK},
		{"removals of {0, 0}", []api.Event{insert(0, 0, 0), take(1), take(2), empty(2), take(2), full(2)}, api.OK},
		{"two removals of one task", []api.Event{insert(0, 1, 1), take(1), task(1, 1, 1), take(1), task(1, 1, 1)}, api.OK},
	} {
		s := spansOf(t, c.events...)
		if want := refusal(s); want != c.want {
			t.Errorf("%s: the telling says %d", c.what, want)
		}
		if c.want != api.OK {
			wantRefused(t, s, c.want)
			continue
		}
		if _, _, e := history.Bag(s); e != api.OK {
			t.Errorf("%s: %d", c.what, e)
		}
		if _, _, e := history.Queue(s); e != api.OK {
			t.Errorf("%s: %d", c.what, e)
		}
	}
}

// TestAnySpans: whatever is given, the error is the telling's, and nobody panics.
func TestAnySpans(t *testing.T) {
	r := rand.New(rand.NewSource(9))
	odd := func() int { return []int{-2, -1, 0, 1, 2, 3, 4, 5, 6, math.MaxInt, math.MinInt}[r.Intn(11)] }
	var seen [100]int
	for range 30000 {
		s := spanned(byChance(r, r.Intn(12), 1+r.Intn(4), 6))
		for range r.Intn(3) {
			if len(s) == 0 {
				break
			}
			x := &s[r.Intn(len(s))]
			switch r.Intn(8) {
			case 0:
				x.Who = odd()
			case 1:
				x.Insert = !x.Insert
			case 2:
				x.Task.Key = uint64(odd())
			case 3:
				x.Begin = odd()
			case 4:
				x.End = odd()
			case 5:
				x.Kind = odd()
			case 6:
				s = slices.Delete(s, 0, 1)
			case 7:
				y := &s[r.Intn(len(s))]
				*x, *y = *y, *x
			}
		}
		want := refusal(s)
		seen[want]++
		if want != api.OK {
			wantRefused(t, s, want)
			continue
		}
		order := make([]int, r.Intn(5))
		for i := range order {
			order[i] = odd()
		}
		for _, queue := range []bool{false, true} {
			if ok, e := history.Follow(s, order, queue); ok != bears(s, order, queue) || e != api.OK {
				t.Fatalf("H6: Follow(%v, %v, %v) = %v, %d", s, order, queue, ok, e)
			}
		}
		_, e := history.Ranks(s, order)
		if want := map[bool]api.Errno{true: api.OK, false: api.ErrState}[bears(s, order, false)]; e != want {
			t.Fatalf("H7: Ranks(%v, %v) = %d, want %d", s, order, e, want)
		}
		if o, ok, e := history.Bag(s); e != api.OK || ok != bears(s, widest(s), false) || ok && !slices.Equal(o, widest(s)) {
			t.Fatalf("H3: Bag(%v) = %v, %v, %d", s, o, ok, e)
		}
		wantWhy(t, s, first(whyNot(s)))
	}
	if seen[api.OK] < 5000 || seen[api.ErrEvents] < 5000 || seen[api.ErrTwice] < 500 {
		t.Errorf("%d are right, %d are none, %d have two insertions of one task", seen[api.OK], seen[api.ErrEvents], seen[api.ErrTwice])
	}
}

func first(p api.Pattern, _ bool) api.Pattern { return p }
