package history

import "wayfare/api"

// Ranks tells how far the removals of an order were off the order of keys.
func Ranks(spans []api.Span, order []int) (api.Rank, api.Errno) {
	if e := look(spans); e != api.OK {
		return api.Rank{}, e
	}
	if !bearsOut(spans, order, false) {
		return api.Rank{}, api.ErrState
	}
	ranks, _ := playBag(spans, order)
	return sumUp(ranks), api.OK
}

// sumUp reckons what is told of ranks.
func sumUp(ranks []int) api.Rank {
	if len(ranks) == 0 {
		return api.Rank{}
	}
	out := api.Rank{Takes: len(ranks)}
	for _, r := range ranks {
		out.Worst = max(out.Worst, r)
		out.Total += r
	}
	takes := float64(out.Takes)
	out.Mean = float64(out.Total) / takes
	var squares float64
	for _, r := range ranks {
		d := float64(r) - out.Mean
		squares += float64(d * d) // converted, so that no machine adds it unrounded
	}
	out.Var = squares / takes
	return out
}
