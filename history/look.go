package history

import (
	"slices"

	"wayfare/api"
)

// look tells what is wrong with spans.
func look(spans []api.Span) api.Errno {
	events, fit := eventsOf(spans)
	if !fit {
		return api.ErrEvents
	}
	again, bad := operations(events)
	switch {
	case bad != none || !slices.Equal(again, spans):
		return api.ErrEvents
	case len(events) > api.MaxEvents:
		return api.ErrMany
	case insertedTwice(spans):
		return api.ErrTwice
	}
	return api.OK
}

// eventsOf lays out the events whose operations spans would be. Two at one moment need not be told here: they leave another moment without an event, and the whole is no history.
func eventsOf(spans []api.Span) (events []api.Event, fit bool) {
	events = make([]api.Event, moments(spans))
	for _, s := range spans {
		if s.Begin < 0 || s.Begin >= len(events) || s.End >= len(events) {
			return nil, false
		}
		events[s.Begin] = beginOf(s)
		if s.End >= 0 {
			events[s.End] = endOf(s)
		}
	}
	return events, true
}

// moments tells how many moments spans have.
func moments(spans []api.Span) int {
	n := len(spans)
	for _, s := range spans {
		if s.End >= 0 {
			n++
		}
	}
	return n
}

func beginOf(s api.Span) api.Event {
	if s.Insert {
		return api.Event{Who: s.Who, Kind: api.EvInsert, Task: s.Task}
	}
	return api.Event{Who: s.Who, Kind: api.EvTake}
}

func endOf(s api.Span) api.Event {
	x := api.Event{Who: s.Who, Kind: s.Kind}
	if s.Kind == api.EvTask {
		x.Task = s.Task
	}
	return x
}

// insertedTwice tells whether two insertions that count or may count have the same task.
func insertedTwice(spans []api.Span) bool {
	seen := map[api.Task]int{}
	for i, s := range spans {
		if !puts(s) {
			continue
		}
		if _, known := seen[s.Task]; known {
			return true
		}
		seen[s.Task] = i
	}
	return false
}

// counts tells whether an operation has to be borne out.
func counts(s api.Span) bool {
	return s.Kind == api.EvInserted || s.Kind == api.EvTask
}

func isOpen(s api.Span) bool {
	return s.End == none
}

// puts tells whether an operation has put a task in, or may have.
func puts(s api.Span) bool {
	return s.Insert && (counts(s) || isOpen(s))
}

// ahead tells whether x was over when y began.
func ahead(x, y api.Span) bool {
	return !isOpen(x) && x.End < y.Begin
}
