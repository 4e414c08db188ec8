package history

import (
	"slices"

	"wayfare/api"
)

// Follow tells whether an order bears out a history; queue: as one of a queue.
func Follow(spans []api.Span, order []int, queue bool) (bool, api.Errno) {
	if e := look(spans); e != api.OK {
		return false, e
	}
	return bearsOut(spans, order, queue), api.OK
}

// bearsOut tells the same of spans that are a history's.
func bearsOut(spans []api.Span, order []int, queue bool) bool {
	if !areTurns(spans, order, queue) || !keepTime(spans, order) {
		return false
	}
	if queue {
		return playQueue(spans, order)
	}
	_, ok := playBag(spans, order)
	return ok
}

// areTurns tells whether there stand in an order all spans that must, and none that may not or stood there already.
func areTurns(spans []api.Span, order []int, queue bool) bool {
	stands := make([]bool, len(spans))
	for _, i := range order {
		if i < 0 || i >= len(spans) || stands[i] || !mayStand(spans[i], queue) {
			return false
		}
		stands[i] = true
	}
	for i, s := range spans {
		if counts(s) && !stands[i] {
			return false
		}
	}
	return true
}

// mayStand tells whether an operation may stand in turns.
func mayStand(s api.Span, queue bool) bool {
	return counts(s) || isOpen(s) && (s.Insert || queue)
}

// keepTime tells whether no span stands behind one that it is ahead of: of those that stand ahead of it, that with the latest begin tells for all.
func keepTime(spans []api.Span, order []int) bool {
	latest := 0
	for _, i := range order {
		if s := spans[i]; !isOpen(s) && s.End < latest {
			return false
		}
		latest = max(latest, spans[i].Begin)
	}
	return true
}

// playQueue tells whether each removal finds what it takes in the first place.
func playQueue(spans []api.Span, order []int) bool {
	var queue []api.Task
	for _, i := range order {
		s := spans[i]
		switch {
		case s.Insert:
			queue = append(queue, s.Task)
		case len(queue) == 0 || !isOpen(s) && queue[0] != s.Task:
			return false
		default:
			queue = queue[1:]
		}
	}
	return true
}

// playBag tells whether each removal finds what it takes, and the ranks of the removals.
func playBag(spans []api.Span, order []int) (ranks []int, ok bool) {
	var bag []api.Task
	for _, i := range order {
		s := spans[i]
		if s.Insert {
			bag = append(bag, s.Task)
			continue
		}
		at := slices.Index(bag, s.Task)
		if at < 0 {
			return nil, false
		}
		ranks = append(ranks, rankOf(s.Task, bag))
		bag = slices.Delete(bag, at, at+1)
	}
	return ranks, true
}

// rankOf tells how many tasks of a bag are more urgent than one.
func rankOf(t api.Task, bag []api.Task) int {
	n := 0
	for _, b := range bag {
		if b.Key < t.Key {
			n++
		}
	}
	return n
}
