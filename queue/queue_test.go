package queue_test

import (
	"math/rand/v2"
	"slices"
	"testing"

	"wayfare/queue"
)

func below(a, b int) bool { return a < b }

// TestMostUrgentFirst: whatever goes in and out in between, out comes the least of what is in.
func TestMostUrgentFirst(t *testing.T) {
	dice := rand.New(rand.NewPCG(22, 1))
	for range 300 {
		q := queue.New(below)
		var in []int
		for range 200 {
			if len(in) > 0 && dice.IntN(3) == 0 {
				least := slices.Min(in)
				if first, x := q.First(), q.Pop(); first != least || x != least {
					t.Fatalf("First %d, Pop %d, want %d of %v", first, x, least, in)
				}
				i := slices.Index(in, least)
				in = slices.Delete(in, i, i+1)
			} else {
				x := dice.IntN(50)
				q.Push(x)
				in = append(in, x)
			}
			if q.Empty() != (len(in) == 0) {
				t.Fatalf("Empty = %v of %v", q.Empty(), in)
			}
		}
	}
}

// TestOrderIsAsTold: the function decides, not the numbers.
func TestOrderIsAsTold(t *testing.T) {
	q := queue.New(func(a, b int) bool { return a > b })
	for _, x := range []int{3, 9, 1, 9, 4} {
		q.Push(x)
	}
	var out []int
	for !q.Empty() {
		out = append(out, q.Pop())
	}
	if !slices.Equal(out, []int{9, 9, 4, 3, 1}) {
		t.Errorf("in falling order: %v", out)
	}
}
