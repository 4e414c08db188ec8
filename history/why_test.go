package history_test

import (
	"slices"
	"testing"

	"wayfare/api"
)

func TestFresh(t *testing.T) {
	// put in while it was taken, ended or not
	wantWhy(t, spansOf(t, take(0), insert(1, 9, 9), task(0, 9, 9)), api.Pattern{})
	wantWhy(t, spansOf(t, take(0), insert(1, 9, 9), task(0, 9, 9), inserted(1)), api.Pattern{})
	// put in too late, never, for want of room not, or something else
	wantWhy(t, spansOf(t, take(0), task(0, 9, 9), insert(1, 9, 9)), fresh(0))
	wantWhy(t, spansOf(t, take(0), task(0, 9, 9), insert(1, 9, 9), inserted(1)), fresh(0))
	wantWhy(t, spansOf(t, insert(1, 9, 9), full(1), take(0), task(0, 9, 9)), fresh(1))
	wantWhy(t, spansOf(t, insert(1, 9, 8), inserted(1), insert(1, 8, 9), inserted(1), take(0), task(0, 9, 9)), fresh(2))
	// the least of several, not the one that ended first
	wantWhy(t, spansOf(t, insert(0, 1, 1), take(1), take(2), task(2, 8, 8), task(1, 9, 9)), fresh(1))
	// ahead of all other patterns
	wantWhy(t, spansOf(t, append(both(), take(1), task(1, 1, 1), take(1), task(1, 1, 1), take(1), task(1, 7, 7))...), fresh(5))
}

func TestTwice(t *testing.T) {
	one := []api.Event{insert(0, 9, 9), inserted(0)}
	wantWhy(t, spansOf(t, slices.Concat(one, []api.Event{take(1), task(1, 9, 9), take(1), task(1, 9, 9)})...), twice(1, 2))
	// by numbers, not by which ended first
	wantWhy(t, spansOf(t, slices.Concat(one, []api.Event{take(1), take(2), task(2, 9, 9), task(1, 9, 9)})...), twice(1, 2))
	// three that take the same: the least B, the least A
	wantWhy(t, spansOf(t, slices.Concat(one, []api.Event{take(1), task(1, 9, 9), take(1), task(1, 9, 9), take(1), task(1, 9, 9)})...), twice(1, 2))
	// two tasks: the least B has not the least A
	two := []api.Event{insert(0, 9, 9), inserted(0), insert(0, 8, 8), inserted(0), take(1), task(1, 9, 9), take(1), task(1, 8, 8)}
	wantWhy(t, spansOf(t, slices.Concat(two, []api.Event{take(1), task(1, 8, 8), take(1), task(1, 9, 9)})...), twice(3, 4))
	// ahead of the order
	wantWhy(t, spansOf(t, append(both(), take(1), task(1, 1, 1), take(1), task(1, 1, 1))...), twice(3, 4))
	// a removal that ended otherwise takes nothing
	wantWhy(t, spansOf(t, insert(0, 0, 0), inserted(0), take(1), task(1, 0, 0), take(1), empty(1), take(1), full(1), take(1)), api.Pattern{})
}

// lined are insertions of (0, 0), (1, 1) .. by who 0, one behind the other.
func lined(n int) []api.Event {
	var out []api.Event
	for i := range uint64(n) {
		out = append(out, insert(0, i, i), inserted(0))
	}
	return out
}

// removals of these by who 1, one behind the other.
func removals(loads ...uint64) []api.Event {
	var out []api.Event
	for _, i := range loads {
		out = append(out, take(1), task(1, i, i))
	}
	return out
}

func TestOrder(t *testing.T) {
	wantWhy(t, spansOf(t, slices.Concat(lined(3), removals(0, 1, 2))...), api.Pattern{})
	// the least A, then the least B
	wantWhy(t, spansOf(t, slices.Concat(lined(3), removals(2, 1, 0))...), order(0, 1))
	wantWhy(t, spansOf(t, slices.Concat(lined(4), removals(0, 3, 2, 1))...), order(1, 2))
	wantWhy(t, spansOf(t, slices.Concat(lined(4), removals(1, 0, 3, 2))...), order(0, 1))
	wantWhy(t, spansOf(t, slices.Concat(lined(4), removals(3, 0, 1, 2))...), order(0, 3))
	// one of the two pairs goes on at the same time
	wantWhy(t, spansOf(t, slices.Concat([]api.Event{insert(0, 0, 0), insert(2, 1, 1), inserted(0), inserted(2)}, removals(1, 0))...), api.Pattern{})
	wantWhy(t, spansOf(t, append(lined(2), take(1), take(2), task(1, 1, 1), task(2, 0, 0))...), api.Pattern{})
	// the later insertion is open: it is behind all the same
	wantWhy(t, spansOf(t, slices.Concat(lined(1), []api.Event{insert(2, 1, 1)}, removals(1, 0))...), order(0, 1))
	// the earlier one is open: it is ahead of nothing
	wantWhy(t, spansOf(t, slices.Concat([]api.Event{insert(2, 0, 0), insert(0, 1, 1), inserted(0)}, removals(1, 0))...), api.Pattern{})
	// an insertion that found no room is overtaken by nothing
	wantWhy(t, spansOf(t, slices.Concat([]api.Event{insert(2, 5, 5), full(2)}, lined(2), removals(0, 1))...), api.Pattern{})
	// what is told first is what was taken both, though an earlier one stays
	wantWhy(t, spansOf(t, slices.Concat(lined(3), removals(2, 1))...), order(1, 2))
}

func TestStranded(t *testing.T) {
	opened := func(n int) []api.Event {
		var out []api.Event
		for i := range n {
			out = append(out, take(10+i))
		}
		return out
	}
	// none is overtaken
	wantWhy(t, spansOf(t, slices.Concat(lined(3), removals(0))...), api.Pattern{})
	wantWhy(t, spansOf(t, slices.Concat([]api.Event{insert(2, 7, 7)}, lined(2), removals(0, 1))...), api.Pattern{})
	// two of the same limit: the one that finds no removal is the second by number
	wantWhy(t, spansOf(t, slices.Concat(lined(3), removals(2))...), order(0, 2))
	wantWhy(t, spansOf(t, slices.Concat(opened(1), lined(3), removals(2))...), order(2, 3))
	wantWhy(t, spansOf(t, slices.Concat(opened(2), lined(3), removals(2))...), api.Pattern{})
	wantWhy(t, spansOf(t, slices.Concat(opened(3), lined(3), removals(2))...), api.Pattern{})
	// an open insertion is no removal; one that ended without a task is none that is open
	wantWhy(t, spansOf(t, slices.Concat([]api.Event{insert(5, 9, 9), take(6), empty(6), take(6), full(6)}, lined(2), removals(1))...), order(3, 4))
	// the second one was begun too late: just at the end of the overtaker's removal, and just ahead of it
	wantWhy(t, spansOf(t, slices.Concat(opened(1), lined(3), removals(2), []api.Event{take(30)})...), order(2, 3))
	wantWhy(t, spansOf(t, slices.Concat(opened(1), lined(3), []api.Event{take(1), take(30), task(1, 2, 2)})...), api.Pattern{})
	// of two overtakers that was taken first has the limit, though its number is greater
	wantWhy(t, spansOf(t, append(lined(1), insert(2, 5, 5), insert(3, 6, 6), inserted(2), inserted(3), take(1), task(1, 6, 6), take(1), task(1, 5, 5))...), order(0, 2))
	// the row goes by limits, not by numbers: here the insertion with the lesser number has the greater limit
	early := []api.Event{
		insert(0, 1, 1), insert(2, 2, 2), inserted(2), insert(2, 3, 3), take(3), task(3, 3, 3), // (2, 2) is overtaken by (3, 3)
		inserted(0), insert(0, 4, 4), inserted(0), take(3), task(3, 4, 4), // (1, 1) by (4, 4)
	}
	wantWhy(t, spansOf(t, early...), order(1, 2))
	wantWhy(t, spansOf(t, slices.Insert(slices.Clone(early), 0, take(9))...), order(1, 5)) // one open removal: it is (2, 2)'s
	wantWhy(t, spansOf(t, slices.Insert(slices.Clone(early), 0, take(9), take(8))...), api.Pattern{})
	wantWhy(t, spansOf(t, slices.Insert(slices.Clone(early), 6, take(9), take(8))...), order(1, 2)) // both too late for (2, 2)
	late := slices.Insert(slices.Insert(slices.Clone(early), 6, take(9)), 0, take(8))
	wantWhy(t, spansOf(t, late...), api.Pattern{}) // the second one is in time for (1, 1)
}
