package loom_test

import (
	"math"
	"math/rand"
	"testing"

	"wayfare/loom"
)

func TestFair(t *testing.T) {
	for _, c := range []struct {
		picks     []int
		n, window int
		want      bool
	}{
		{[]int{0, 1, 1, 0}, 2, 2, false},
		{[]int{0, 1, 1, 0}, 2, 3, true},
		{nil, 2, 1, true},
		{[]int{0}, 1, 0, false},
		{[]int{0}, 0, 1, false},
		{nil, 0, 1, false},
		{nil, 1, 0, false},
		{nil, -1, -1, false},
		{[]int{0}, math.MinInt, 5, false},
		{[]int{0}, 5, math.MinInt, false},
		{[]int{0}, 1, 1, true},
		{[]int{0}, 2, 1, false},
		{[]int{0}, 2, 2, true},
		{[]int{0, 0}, 2, 2, false},
		{[]int{0, 1}, 3, 2, false},
		{[]int{-1, 0, 3, -2}, 2, 2, true},
		{[]int{7, 8, 9, 10}, 3, 3, true},
		{[]int{0, 1, 2, 0, 1}, 3, 3, true},
		{[]int{0, 1, 2, 1, 0}, 3, 3, false},
		{[]int{0, 1, 0, 1, 1}, 2, 2, false},
		{[]int{1, 1, 0, 1, 0}, 2, 2, false},
		{[]int{0, 1}, math.MaxInt, 2, false},
		{[]int{0, 1}, math.MaxInt, math.MaxInt, true},
		{[]int{math.MinInt, math.MaxInt}, 2, 2, true},
	} {
		if got := loom.Fair(c.picks, c.n, c.window); got != c.want {
			t.Errorf("L6: Fair(%v, %d, %d) = %v", c.picks, c.n, c.window, got)
		}
	}
}

// fair is L6 word by word.
func fair(picks []int, n, window int) bool {
	for first := 0; first+window <= len(picks); first++ {
		seen := map[int]bool{}
		for _, w := range picks[first : first+window] {
			seen[((w%n)+n)%n] = true
		}
		if len(seen) < n {
			return false
		}
	}
	return true
}

func TestFairByRows(t *testing.T) {
	r := rand.New(rand.NewSource(4))
	yes := 0
	for range 4000 {
		n, window := 1+r.Intn(4), 1+r.Intn(9)
		var picks []int
		for range r.Intn(14) {
			picks = append(picks, r.Intn(9)-4)
		}
		want := fair(picks, n, window)
		if got := loom.Fair(picks, n, window); got != want {
			t.Fatalf("L6: Fair(%v, %d, %d) = %v", picks, n, window, got)
		}
		if want {
			yes++
		}
	}
	if yes < 500 || yes > 3500 {
		t.Errorf("%d of 4000 rows are fair: the test looks at one side alone", yes)
	}
}
