package history_test

import (
	"math"
	"runtime"
	"slices"
	"testing"

	"wayfare/api"
	"wayfare/history"
)

// spare makes a list whose spare room is filled with one thing.
func spare[T any](fill T, list ...T) []T {
	room := append(slices.Clone(list), fill, fill, fill)
	return room[:len(list)]
}

// laidOpen is a list with its spare room.
func laidOpen[T any](l []T) []T { return slices.Clone(l[:cap(l)]) }

// spoil writes over a list and its spare room.
func spoil[T any](l []T, with T) {
	l = l[:cap(l)]
	for i := range l {
		l[i] = with
	}
}

var (
	oddEvent = event(77, 77, 77, 77, 77)
	oddSpan  = api.Span{Who: 77, Insert: true, Task: pair(77, 77), Begin: 77, End: 77, Kind: 77}
)

// TestNothingIsChanged: neither by a call that is answered nor by one that is refused.
func TestNothingIsChanged(t *testing.T) {
	events := spare(oddEvent, append(both(), take(1), task(1, 1, 1))...)
	was := laidOpen(events)
	history.Spans(events)
	history.Show(events)
	history.Spans(events[:cap(events)])
	history.Show(events[:cap(events)])
	if !slices.Equal(laidOpen(events), was) {
		t.Errorf("P0.4: events were changed: %v", laidOpen(events))
	}
	right := spansOf(t, both()...)
	turned := slices.Clone(right)
	turned[0], turned[2] = turned[2], turned[0]
	for _, s := range [][]api.Span{right, spansOf(t, slices.Insert(both(), 0, take(2))...), spansOf(t, insert(0, 1, 1), insert(1, 1, 1)), turned} {
		for _, o := range [][]int{{0, 1, 2}, {2, 1, 0}, {0, 1}, {9}} {
			spans, order := spare(oddSpan, s...), spare(77, o...)
			wasSpans, wasOrder := laidOpen(spans), laidOpen(order)
			history.Bag(spans)
			history.Queue(spans)
			history.Why(spans)
			history.Follow(spans, order, false)
			history.Follow(spans, order, true)
			history.Ranks(spans, order)
			if !slices.Equal(laidOpen(spans), wasSpans) || !slices.Equal(laidOpen(order), wasOrder) {
				t.Errorf("P0.4: arguments were changed: %v, %v", laidOpen(spans), laidOpen(order))
			}
		}
	}
}

// TestNothingIsShared: an answer, written over, changes neither the arguments nor another answer; nor do the arguments change it.
func TestNothingIsShared(t *testing.T) {
	events := spare(oddEvent, both()[:4]...)
	was := laidOpen(events)
	one, two := spansOf(t, events...), spansOf(t, events...)
	spoil(one, oddSpan)
	if !slices.Equal(laidOpen(events), was) {
		t.Errorf("H1: an answer of Spans shares memory with the events: %v", laidOpen(events))
	}
	spoil(events, oddEvent)
	if !slices.Equal(two, spansOf(t, both()[:4]...)) {
		t.Errorf("H1: Spans has kept something: %v", two)
	}
	for _, call := range []func([]api.Span) ([]int, bool, api.Errno){history.Bag, history.Queue} {
		spans := spare(oddSpan, spansOf(t, both()[:4]...)...)
		was := laidOpen(spans)
		o, _, _ := call(spans)
		p, _, _ := call(spans)
		spoil(o, 77)
		if !slices.Equal(laidOpen(spans), was) {
			t.Errorf("H1: turns share memory with spans: %v", laidOpen(spans))
		}
		spoil(spans, oddSpan)
		if !slices.Equal(p, []int{0, 1}) {
			t.Errorf("H1: turns have changed with another answer: %v", p)
		}
	}
	l, _, _, _ := history.Read("0 0 take\n0 0 empty\n")
	m, _, _, _ := history.Read("0 0 take\n0 0 empty\n")
	spoil(l, oddEvent)
	if !slices.Equal(m, []api.Event{take(0), empty(0)}) {
		t.Errorf("H1: a Read has changed with an answer of another: %v", m)
	}
}

// TestNilAndEmpty: P0.3.
func TestNilAndEmpty(t *testing.T) {
	for _, events := range [][]api.Event{nil, {}} {
		if s := spansOf(t, events...); len(s) != 0 {
			t.Errorf("P0.3: %v", s)
		}
	}
	for _, spans := range [][]api.Span{nil, {}} {
		wantBag(t, spans, true)
		wantWhy(t, spans, api.Pattern{})
		for _, order := range [][]int{nil, {}} {
			wantRank(t, spans, order, api.Rank{})
			for _, queue := range []bool{false, true} {
				if ok, e := history.Follow(spans, order, queue); !ok || e != api.OK {
					t.Errorf("P0.3: Follow = %v, %d", ok, e)
				}
			}
		}
	}
}

// TestTheSameAgain: P0.5: the same call answers the same.
func TestTheSameAgain(t *testing.T) {
	var events []api.Event
	for i := range 40 {
		events = append(events, insert(i, uint64(i%3), uint64(i)), take(100+i))
	}
	for i := range 30 {
		events = append(events, inserted(i))
	}
	for i := range 20 {
		events = append(events, task(100+i, uint64(i%3), uint64(i)))
	}
	spans := spansOf(t, events...)
	o, _, _ := history.Queue(spans)
	for range 50 {
		if p, ok, _ := history.Queue(spans); !ok || !slices.Equal(o, p) {
			t.Fatalf("P0.5: %v, and then %v", o, p)
		}
	}
}

// TestNoLongLists: great numbers make no long lists.
func TestNoLongLists(t *testing.T) {
	var before, behind runtime.MemStats
	great := []api.Span{{Begin: 0, End: math.MaxInt, Kind: api.EvEmpty}, {Who: 1, Begin: math.MaxInt - 1, End: -1}}
	order := []int{math.MaxInt, math.MinInt}
	right := []api.Span{{Who: math.MaxInt, Insert: true, Begin: 0, End: -1}}
	events := []api.Event{event(math.MaxInt, math.MaxInt, api.EvTake)}
	runtime.ReadMemStats(&before)
	history.Spans(events)
	history.Show(events)
	for _, s := range [][]api.Span{great, right} {
		history.Bag(s)
		history.Queue(s)
		history.Why(s)
		history.Follow(s, order, true)
		history.Ranks(s, order)
	}
	history.Read("1000000000 1000000000 insert 18446744073709551615 18446744073709551615")
	runtime.ReadMemStats(&behind)
	if made := behind.TotalAlloc - before.TotalAlloc; made > 1<<16 {
		t.Errorf("P0.9: %d bytes were made", made)
	}
}
