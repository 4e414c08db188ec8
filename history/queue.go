package history

import (
	"slices"

	"wayfare/api"
)

// notYet is a moment behind all that there are.
const notYet = api.MaxEvents

// Queue tells an order in which always the first one was taken, if there is one.
func Queue(spans []api.Span) ([]int, bool, api.Errno) {
	if e := look(spans); e != api.OK {
		return nil, false, e
	}
	if _, found := why(spans); found {
		return nil, false, api.OK
	}
	return merge(spans, inLine(spans, needed(spans))), true, api.OK
}

// needed are the passages that turns must have, of a history without a pattern: an overtaken task is taken by the open removal that has its place in their row, and an open insertion whose task nobody takes is left out.
func needed(spans []api.Span) []passage {
	open := openRemovals(spans)
	rescue := map[int]int{} // from overtaken insertions to open removals
	for i, o := range overtakenOnes(spans) {
		rescue[o.in] = open[i]
	}
	var out []passage
	for _, p := range passages(spans) {
		if r, known := rescue[p.in]; known {
			p.out = r
		}
		if p.out != none || counts(spans[p.in]) {
			out = append(out, p)
		}
	}
	return out
}

// inLine tells the order in which tasks go through the queue: of those whose removal may come next, always the one whose insertion began first. If one that is left had to go in ahead of that, or came out ahead of its begin, there would be a pattern: its own removal begins behind the end of the next one to come out, and that one's insertion began no sooner.
func inLine(spans []api.Span, left []passage) []passage {
	var line []passage
	for len(left) > 0 {
		limit := notYet
		for _, p := range left {
			_, to := outOf(spans, p)
			limit = min(limit, to)
		}
		next := slices.IndexFunc(left, func(p passage) bool {
			from, _ := outOf(spans, p)
			return from <= limit
		})
		line = append(line, left[next])
		left = slices.Delete(left, next, next+1)
	}
	return line
}

// outOf tells when a task goes out, at the earliest and at the latest.
func outOf(spans []api.Span, p passage) (from, to int) {
	switch {
	case p.out == none:
		return notYet, notYet
	case isOpen(spans[p.out]):
		return spans[p.out].Begin, notYet
	}
	return spans[p.out].Begin, spans[p.out].End
}

// merge makes turns of a line: a removal comes as soon as its task is in and no insertion that is left was over ahead of it; else the next insertion comes.
func merge(spans []api.Span, line []passage) []int {
	var order []int
	gone := 0
	for i, p := range line {
		for gone < i && mayGo(spans, line[gone], line[i:]) {
			order = append(order, line[gone].out)
			gone++
		}
		order = append(order, p.in)
	}
	for _, p := range line[gone:] {
		if p.out != none {
			order = append(order, p.out)
		}
	}
	return order
}

// mayGo tells whether a task may go out while others are still to come in.
func mayGo(spans []api.Span, p passage, left []passage) bool {
	return p.out != none && !slices.ContainsFunc(left, func(q passage) bool { return ahead(spans[q.in], spans[p.out]) })
}
