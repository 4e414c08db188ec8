package history

import (
	"cmp"
	"slices"

	"wayfare/api"
)

// Why tells what keeps a history from being one of a queue.
func Why(spans []api.Span) (api.Pattern, bool, api.Errno) {
	if e := look(spans); e != api.OK {
		return api.Pattern{}, false, e
	}
	p, found := why(spans)
	return p, found, api.OK
}

// why tells the same of spans that are a history's. Each pattern may count on it that there is none of those ahead.
func why(spans []api.Span) (api.Pattern, bool) {
	if p, found := fresh(spans); found {
		return p, true
	}
	if p, found := twice(spans); found {
		return p, true
	}
	if p, found := crossed(spans); found {
		return p, true
	}
	return stranded(spans)
}

// fresh finds a removal of what had not begun to be put in when it ended.
func fresh(spans []api.Span) (api.Pattern, bool) {
	putter := putters(spans)
	for a, s := range spans {
		if s.Kind != api.EvTask {
			continue
		}
		if in, known := putter[s.Task]; !known || spans[in].Begin > s.End {
			return api.Pattern{Kind: api.PatFresh, A: a, B: none}, true
		}
	}
	return api.Pattern{}, false
}

// twice finds a removal of what another one takes.
func twice(spans []api.Span) (api.Pattern, bool) {
	taker := takers(spans)
	for b, s := range spans {
		if s.Kind != api.EvTask {
			continue
		}
		if a := taker[s.Task]; a != b {
			return api.Pattern{Kind: api.PatTwice, A: a, B: b}, true
		}
	}
	return api.Pattern{}, false
}

// passage is how a task goes through the queue: the span that puts it in, and the one that takes it out, or none.
type passage struct {
	in, out int
}

// passages are those of all tasks that were put in, or may have been, by the numbers of their insertions.
func passages(spans []api.Span) []passage {
	taker := takers(spans)
	var out []passage
	for i, s := range spans {
		if !puts(s) {
			continue
		}
		p := passage{i, none}
		if j, isTaken := taker[s.Task]; isTaken {
			p.out = j
		}
		out = append(out, p)
	}
	return out
}

// crossed finds two tasks that went in one behind the other, and came out the other way round.
func crossed(spans []api.Span) (api.Pattern, bool) {
	all := slices.DeleteFunc(passages(spans), func(p passage) bool { return p.out == none })
	for _, a := range all {
		for _, b := range all {
			if ahead(spans[a.in], spans[b.in]) && ahead(spans[b.out], spans[a.out]) {
				return api.Pattern{Kind: api.PatOrder, A: a.in, B: b.in}, true
			}
		}
	}
	return api.Pattern{}, false
}

// overtaken is an insertion whose task nobody is known to have taken, though that of a later one was: an open removal begun below the limit must have taken it.
type overtaken struct {
	in, by, limit int
}

// stranded finds an overtaken insertion for which no open removal is left.
func stranded(spans []api.Span) (api.Pattern, bool) {
	open := openRemovals(spans)
	for i, o := range overtakenOnes(spans) {
		if i >= len(open) || spans[open[i]].Begin >= o.limit {
			return api.Pattern{Kind: api.PatOrder, A: o.in, B: o.by}, true
		}
	}
	return api.Pattern{}, false
}

// openRemovals are their numbers; these rise as their begins do.
func openRemovals(spans []api.Span) []int {
	var out []int
	for i, s := range spans {
		if isOpen(s) && !s.Insert {
			out = append(out, i)
		}
	}
	return out
}

// overtakenOnes are those in a row by limit, then by number: the sort keeps the latter.
func overtakenOnes(spans []api.Span) []overtaken {
	all := passages(spans)
	var row []overtaken
	for _, p := range all {
		if p.out != none {
			continue
		}
		if by := overtaker(spans, all, p.in); by.out != none {
			row = append(row, overtaken{p.in, by.in, spans[by.out].End})
		}
	}
	slices.SortStableFunc(row, func(a, b overtaken) int { return cmp.Compare(a.limit, b.limit) })
	return row
}

// overtaker is, of the tasks that went in behind an insertion, that which was taken first.
func overtaker(spans []api.Span, all []passage, in int) passage {
	first := passage{none, none}
	for _, p := range all {
		if p.out == none || !ahead(spans[in], spans[p.in]) {
			continue
		}
		if first.out == none || spans[p.out].End < spans[first.out].End {
			first = p
		}
	}
	return first
}
