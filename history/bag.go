package history

import (
	"slices"

	"wayfare/api"
)

// Bag tells an order in which all that was taken was there, whatever was chosen; if there is one.
func Bag(spans []api.Span) ([]int, bool, api.Errno) {
	if e := look(spans); e != api.OK {
		return nil, false, e
	}
	order := widest(spans)
	if !bearsOut(spans, order, false) {
		return nil, false, api.OK
	}
	return order, true, api.OK
}

// widest are the turns in which each insertion comes as early as it can, and each removal as late: if any turns bear a bag's history out, these do.
func widest(spans []api.Span) []int {
	turns := make([]int, moments(spans)) // by moment: whose turn it is
	for i := range turns {
		turns[i] = none
	}
	taken := takers(spans)
	for i, s := range spans {
		_, isTaken := taken[s.Task]
		switch {
		case puts(s) && (counts(s) || isTaken):
			turns[s.Begin] = i
		case s.Kind == api.EvTask:
			turns[s.End] = i
		}
	}
	return slices.DeleteFunc(turns, func(i int) bool { return i == none })
}

// takers are the removals that count, by what they take; of two that take the same the first one.
func takers(spans []api.Span) map[api.Task]int {
	out := map[api.Task]int{}
	for i, s := range spans {
		if _, known := out[s.Task]; s.Kind == api.EvTask && !known {
			out[s.Task] = i
		}
	}
	return out
}

// putters are the insertions that count or may count, by what they put in.
func putters(spans []api.Span) map[api.Task]int {
	out := map[api.Task]int{}
	for i, s := range spans {
		if puts(s) {
			out[s.Task] = i
		}
	}
	return out
}
