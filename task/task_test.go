package task_test

import (
	"math/rand"
	"slices"
	"testing"

	"wayfare/api"
	"wayfare/task"
)

func TestSort(t *testing.T) {
	const most = api.Never
	want := []api.Task{{Key: 0, Load: 0}, {Key: 0, Load: most}, {Key: 1, Load: 0}, {Key: 1, Load: 1}, {Key: 1, Load: 1}, {Key: most - 1, Load: 0}, {Key: most, Load: 0}, {Key: most, Load: most}}
	r := rand.New(rand.NewSource(1))
	for range 200 {
		l := slices.Clone(want)
		r.Shuffle(len(l), func(i, j int) { l[i], l[j] = l[j], l[i] })
		if task.Sort(l); !slices.Equal(l, want) {
			t.Fatalf("Words: sorted by Key, then by Load: %v", l)
		}
	}
	task.Sort(nil)
}

func TestAnyNever(t *testing.T) {
	for _, c := range []struct {
		l    []api.Task
		want bool
	}{
		{nil, false},
		{[]api.Task{}, false},
		{[]api.Task{{Key: api.Never - 1, Load: api.Never}}, false},
		{[]api.Task{{Key: api.Never}}, true},
		{[]api.Task{{}, {Key: api.Never}, {}}, true},
		{[]api.Task{{}, {}, {Key: api.Never, Load: 3}}, true},
	} {
		if got := task.AnyNever(c.l); got != c.want {
			t.Errorf("Words: AnyNever(%v) = %v", c.l, got)
		}
	}
}
