package history_test

import (
	"math"
	"math/big"
	"math/rand"
	"slices"
	"testing"

	"wayfare/api"
	"wayfare/history"
)

func wantRank(t *testing.T, spans []api.Span, order []int, want api.Rank) {
	t.Helper()
	if r, e := history.Ranks(spans, order); r != want || e != api.OK {
		t.Errorf("H7: Ranks(%v, %v) = %v, %d, want %v", spans, order, r, e, want)
	}
}

func TestRanks(t *testing.T) {
	wantRank(t, nil, nil, api.Rank{})
	wantRank(t, nil, []int{}, api.Rank{})
	// without removals
	wantRank(t, spansOf(t, lined(3)...), []int{0, 1, 2}, api.Rank{})
	// always the last one: 2, 1, 0
	s := spansOf(t, slices.Concat(lined(3), removals(2, 1, 0))...)
	wantRank(t, s, []int{0, 1, 2, 3, 4, 5}, api.Rank{Takes: 3, Worst: 2, Total: 3, Mean: 1, Var: 2.0 / 3})
	// one of the same key is not lesser, whatever its load
	same := spansOf(t, insert(0, 4, 1), inserted(0), insert(0, 4, 2), inserted(0), take(0), task(0, 4, 2))
	wantRank(t, same, []int{0, 1, 2}, api.Rank{Takes: 1})
	// what comes in behind is not there; an open insertion that stands is
	later := spansOf(t, insert(0, 5, 5), insert(1, 3, 3), insert(2, 1, 1), inserted(0), take(0), inserted(1), task(0, 5, 5))
	wantRank(t, later, []int{0, 3, 1}, api.Rank{Takes: 1})
	wantRank(t, later, []int{1, 0, 3}, api.Rank{Takes: 1, Worst: 1, Total: 1, Mean: 1})
	wantRank(t, later, []int{2, 1, 0, 3}, api.Rank{Takes: 1, Worst: 2, Total: 2, Mean: 2})
	// keys at the ends of a word
	ends := spansOf(t, insert(0, 0, 1), inserted(0), insert(0, api.Never, 1), inserted(0), take(0), task(0, api.Never, 1), take(0), task(0, 0, 1))
	wantRank(t, ends, []int{0, 1, 2, 3}, api.Rank{Takes: 2, Worst: 1, Total: 1, Mean: 0.5, Var: 0.25})
}

func TestRanksRefused(t *testing.T) {
	s := spansOf(t, insert(0, 1, 1), inserted(0), take(1), task(1, 1, 1), take(2))
	for _, order := range [][]int{nil, {0}, {1}, {1, 0}, {0, 1, 1}, {0, 1, 3}, {-1, 0, 1}, {0, 1, 2}, {2, 0, 1}} {
		if r, e := history.Ranks(s, order); r != (api.Rank{}) || e != api.ErrState {
			t.Errorf("H7: Ranks(%v) = %v, %d", order, r, e)
		}
	}
	if r, e := history.Ranks(nil, []int{0}); r != (api.Rank{}) || e != api.ErrState {
		t.Errorf("H7: of no span: %v, %d", r, e)
	}
}

// ranked reckons as the chapter does, in numbers of any length that are rounded where it says so.
func ranked(spans []api.Span, order []int) api.Rank {
	var bag []api.Task
	var ranks []int
	for _, i := range order {
		s := spans[i]
		if s.Insert {
			bag = append(bag, s.Task)
			continue
		}
		ranks = append(ranks, 0)
		for _, b := range bag {
			if b.Key < s.Task.Key {
				ranks[len(ranks)-1]++
			}
		}
		bag = slices.DeleteFunc(bag, func(b api.Task) bool { return b == s.Task })
	}
	if len(ranks) == 0 {
		return api.Rank{}
	}
	r := api.Rank{Takes: len(ranks), Worst: slices.Max(ranks)}
	for _, n := range ranks {
		r.Total += n
	}
	float := func() *big.Float { return new(big.Float).SetPrec(53).SetMode(big.ToNearestEven) }
	takes := float().SetInt64(int64(r.Takes))
	mean := float().Quo(float().SetInt64(int64(r.Total)), takes)
	sum := float()
	for _, n := range ranks {
		d := float().Sub(float().SetInt64(int64(n)), mean)
		square := float().Mul(d, d)
		sum = float().Add(sum, square)
	}
	r.Mean, _ = mean.Float64()
	r.Var, _ = float().Quo(sum, takes).Float64()
	return r
}

// TestRanksToTheLastBit: many removals, so that sums are rounded.
func TestRanksToTheLastBit(t *testing.T) {
	r := rand.New(rand.NewSource(7))
	rough := 0
	for i := range 300 {
		n := 1 + r.Intn(40)
		if i < 3 {
			n = api.MaxEvents / 4
		}
		var events []api.Event
		for _, k := range r.Perm(n) {
			events = append(events, insert(0, uint64(r.Intn(n)), uint64(k)), inserted(0))
		}
		for _, k := range r.Perm(n) {
			x := events[2*k]
			events = append(events, take(1), task(1, x.Task.Key, x.Task.Load))
		}
		spans := spansOf(t, events...)
		order, _, _ := history.Bag(spans)
		got, e := history.Ranks(spans, order)
		want := ranked(spans, order)
		if e != api.OK || got != want || math.Float64bits(got.Mean) != math.Float64bits(want.Mean) || math.Float64bits(got.Var) != math.Float64bits(want.Var) {
			t.Fatalf("H7: %v, %d, want %v", got, e, want)
		}
		if want.Var*float64(want.Takes) != math.Trunc(want.Var*float64(want.Takes)) {
			rough++
		}
	}
	if rough < 100 {
		t.Errorf("only %d variances are rough", rough)
	}
}
