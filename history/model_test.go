package history_test

import (
	"math/rand"
	"slices"

	"wayfare/api"
)

// What the chapter says, told once more word by word, and slowly.

// isHistory tells the moment of the first event because of which events are no history; -1, if they are one.
func isHistory(events []api.Event) int {
	for at, x := range events {
		open := 0 // the kind of the last event of that who, if it is a begin
		for _, y := range events[:at] {
			if y.Who == x.Who {
				open = y.Kind
			}
		}
		free := open != api.EvInsert && open != api.EvTake
		fits := map[int]bool{
			api.EvInsert: free, api.EvTake: free,
			api.EvInserted: open == api.EvInsert, api.EvTask: open == api.EvTake, api.EvEmpty: open == api.EvTake, api.EvFull: !free,
		}
		stray := x.Kind != api.EvInsert && x.Kind != api.EvTask && x.Task != api.Task{}
		if x.Who < 0 || !fits[x.Kind] || x.At < 0 || at > 0 && x.At < events[at-1].At || stray {
			return at
		}
	}
	return -1
}

// spanned are the operations of a history: each event that begins one, and the next one of the same who.
func spanned(events []api.Event) []api.Span {
	var out []api.Span
	for at, x := range events {
		if x.Kind != api.EvInsert && x.Kind != api.EvTake {
			continue
		}
		s := api.Span{Who: x.Who, Insert: x.Kind == api.EvInsert, Task: x.Task, Begin: at, End: -1}
		for i, y := range events {
			if i > at && y.Who == x.Who {
				s.End, s.Kind = i, y.Kind
				if y.Kind == api.EvTask {
					s.Task = y.Task
				}
				break
			}
		}
		out = append(out, s)
	}
	return out
}

func isKind(s api.Span) bool {
	switch {
	case s.End == -1:
		return s.Kind == 0
	case s.Insert:
		return s.Kind == api.EvInserted || s.Kind == api.EvFull
	}
	return s.Kind == api.EvTask || s.Kind == api.EvEmpty || s.Kind == api.EvFull
}

// areSpans tells whether spans are those of a history, by the conditions of the chapter.
func areSpans(spans []api.Span) bool {
	var moments []int
	for i, s := range spans {
		moments = append(moments, s.Begin)
		if s.End >= 0 {
			moments = append(moments, s.End)
		}
		if i > 0 && spans[i-1].Begin >= s.Begin || s.End != -1 && s.End <= s.Begin || s.Who < 0 || !isKind(s) {
			return false
		}
		if !s.Insert && s.Kind != api.EvTask && s.Task != (api.Task{}) {
			return false
		}
		for _, p := range spans[:i] {
			if p.Who == s.Who && (p.End == -1 || p.End >= s.Begin) {
				return false
			}
		}
	}
	slices.Sort(moments)
	for i, m := range moments {
		if m != i {
			return false
		}
	}
	return true
}

// refusal is what every call answers that has spans.
func refusal(spans []api.Span) api.Errno {
	if !areSpans(spans) {
		return api.ErrEvents
	}
	moments := len(spans)
	for _, s := range spans {
		if s.End >= 0 {
			moments++
		}
	}
	if moments > api.MaxEvents {
		return api.ErrMany
	}
	for i, s := range spans {
		for _, p := range spans[:i] {
			if insertion(s) && insertion(p) && s.Task == p.Task {
				return api.ErrTwice
			}
		}
	}
	return api.OK
}

func mustStand(s api.Span) bool {
	return s.Insert && s.Kind == api.EvInserted || !s.Insert && s.Kind == api.EvTask
}

func removal(s api.Span) bool { return !s.Insert && mustStand(s) }

func insertion(s api.Span) bool { return s.Insert && (mustStand(s) || s.End == -1) }

func isAhead(x, y api.Span) bool { return x.End >= 0 && x.End < y.Begin }

// bears tells whether turns bear a history out.
func bears(spans []api.Span, order []int, queue bool) bool {
	for at, i := range order {
		if slices.Contains(order[:at], i) || i < 0 || i >= len(spans) {
			return false
		}
		if s := spans[i]; !mustStand(s) && !insertion(s) && !(queue && s.End == -1) {
			return false
		}
		for _, j := range order[:at] {
			if isAhead(spans[i], spans[j]) {
				return false
			}
		}
	}
	for i, s := range spans {
		if mustStand(s) && !slices.Contains(order, i) {
			return false
		}
	}
	var in []api.Task
	for _, i := range order {
		next, ok := turned(in, spans[i], queue)
		if !ok {
			return false
		}
		in = next
	}
	return true
}

// turned is what is in behind a turn, if that can be had.
func turned(in []api.Task, s api.Span, queue bool) ([]api.Task, bool) {
	in = slices.Clone(in)
	if s.Insert {
		return append(in, s.Task), true
	}
	at := slices.Index(in, s.Task)
	if queue && s.End == -1 {
		at = 0
	}
	if at < 0 || len(in) == 0 || queue && at != 0 {
		return nil, false
	}
	return slices.Delete(in, at, at+1), true
}

// someTurns searches all orders for turns that bear a history out.
func someTurns(spans []api.Span, queue bool) bool {
	return goOn(spans, make([]bool, len(spans)), nil, queue)
}

// goOn looks for the turns that are left: any span may come next that no span that must still come is ahead of.
func goOn(spans []api.Span, stands []bool, in []api.Task, queue bool) bool {
	left := false
	for i, s := range spans {
		left = left || mustStand(s) && !stands[i]
	}
	if !left {
		return true
	}
	for i, s := range spans {
		if stands[i] || !mustStand(s) && !insertion(s) && !(queue && s.End == -1) {
			continue
		}
		late := false
		for j, x := range spans {
			late = late || mustStand(x) && !stands[j] && isAhead(x, s)
		}
		next, ok := turned(in, s, queue)
		if late || !ok {
			continue
		}
		stands[i] = true
		found := goOn(spans, stands, next, queue)
		stands[i] = false
		if found {
			return true
		}
	}
	return false
}

// whyNot is the first pattern that there is.
func whyNot(spans []api.Span) (api.Pattern, bool) {
	for _, look := range []func([]api.Span) (api.Pattern, bool){seenFresh, seenTwice, seenCrossed, seenStranded} {
		if p, found := look(spans); found {
			return p, true
		}
	}
	return api.Pattern{}, false
}

func seenFresh(spans []api.Span) (api.Pattern, bool) {
	for a, s := range spans {
		if removal(s) && !slices.ContainsFunc(spans, func(x api.Span) bool { return insertion(x) && x.Task == s.Task && x.Begin < s.End }) {
			return api.Pattern{Kind: api.PatFresh, A: a, B: -1}, true
		}
	}
	return api.Pattern{}, false
}

func seenTwice(spans []api.Span) (api.Pattern, bool) {
	for b, s := range spans {
		for a, x := range spans[:b] {
			if removal(s) && removal(x) && s.Task == x.Task {
				return api.Pattern{Kind: api.PatTwice, A: a, B: b}, true
			}
		}
	}
	return api.Pattern{}, false
}

// removerOf is the number of the removal of an insertion's task.
func removerOf(spans []api.Span, in int) int {
	return slices.IndexFunc(spans, func(x api.Span) bool { return removal(x) && x.Task == spans[in].Task })
}

func seenCrossed(spans []api.Span) (api.Pattern, bool) {
	for a := range spans {
		for b := range spans {
			if !insertion(spans[a]) || !insertion(spans[b]) || !isAhead(spans[a], spans[b]) {
				continue
			}
			ra, rb := removerOf(spans, a), removerOf(spans, b)
			if ra >= 0 && rb >= 0 && isAhead(spans[rb], spans[ra]) {
				return api.Pattern{Kind: api.PatOrder, A: a, B: b}, true
			}
		}
	}
	return api.Pattern{}, false
}

func seenStranded(spans []api.Span) (api.Pattern, bool) {
	type one struct{ limit, number, by int }
	var row []one
	for a := range spans {
		if !insertion(spans[a]) || removerOf(spans, a) >= 0 {
			continue
		}
		o := one{limit: -1, number: a}
		for b := range spans {
			if !insertion(spans[b]) || !isAhead(spans[a], spans[b]) || removerOf(spans, b) < 0 {
				continue
			}
			if end := spans[removerOf(spans, b)].End; o.limit < 0 || end < o.limit {
				o.limit, o.by = end, b
			}
		}
		if o.limit >= 0 {
			row = append(row, o)
		}
	}
	slices.SortFunc(row, func(x, y one) int {
		if x.limit != y.limit {
			return x.limit - y.limit
		}
		return x.number - y.number
	})
	var begins []int
	for _, s := range spans {
		if !s.Insert && s.End == -1 {
			begins = append(begins, s.Begin)
		}
	}
	for i, o := range row {
		if len(begins) <= i || begins[i] >= o.limit {
			return api.Pattern{Kind: api.PatOrder, A: o.number, B: o.by}, true
		}
	}
	return api.Pattern{}, false
}

// byChance is a history of so many events by so many. Tasks that are taken are mostly ones that were put in; others come in with the odds of one to stray.
func byChance(r *rand.Rand, events, whos, stray int) []api.Event {
	var out []api.Event
	var known []api.Task // put in, and not yet taken
	open := make([]api.Event, whos)
	at := 0
	for range events {
		at += r.Intn(3)
		x := api.Event{At: at, Who: r.Intn(whos)}
		switch open[x.Who].Kind {
		case api.EvInsert:
			x.Kind = api.EvInserted
			if r.Intn(8) == 0 {
				x.Kind = api.EvFull
			}
		case api.EvTake:
			x.Kind = []int{api.EvTask, api.EvTask, api.EvTask, api.EvTask, api.EvTask, api.EvEmpty, api.EvFull}[r.Intn(7)]
			if x.Kind == api.EvTask && len(known) == 0 && r.Intn(stray) > 0 {
				x.Kind = api.EvEmpty
			}
			if x.Kind == api.EvTask {
				x.Task, known = someTask(r, known, stray)
			}
		default:
			x.Kind = api.EvTake
			if r.Intn(2) == 0 {
				x.Kind, x.Task = api.EvInsert, api.Task{Key: uint64(r.Intn(4)), Load: uint64(len(out))}
				if r.Intn(stray) < 2 {
					x.Task = api.Task{Load: 1}
				}
				known = append(known, x.Task)
			}
		}
		open[x.Who] = x
		out = append(out, x)
	}
	return out
}

// someTask is one that a removal may take, near the first place of those that are known.
func someTask(r *rand.Rand, known []api.Task, stray int) (api.Task, []api.Task) {
	if len(known) == 0 || r.Intn(stray) == 0 {
		return api.Task{Key: uint64(r.Intn(2)), Load: uint64(r.Intn(9))}, known
	}
	at := min(r.Intn(len(known)), r.Intn(len(known)))
	t := known[at]
	return t, slices.Delete(slices.Clone(known), at, at+1)
}
