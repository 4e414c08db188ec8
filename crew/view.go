package crew

import (
	"slices"

	"wayfare/api"
	"wayfare/task"
)

// View tells what the search holds now.
func (c *Crew) View() api.View {
	s := c.search
	cells := s.arena.Image()
	return api.View{
		Born:  sorted(s.diary.born),
		Ended: sorted(s.diary.ended),
		Held:  s.held(cells),
		Pend:  cells[pendingCell],
		Done:  cells[doneCell],
		Fault: cells[faultCell],
		Phase: s.phases(),
	}
}

// sorted is a sorted copy.
func sorted(l []api.Task) []api.Task {
	out := slices.Clone(l)
	task.Sort(out)
	return out
}

func (s *search) phases() []int {
	out := make([]int, len(s.workers))
	for i, w := range s.workers {
		out[i] = w.phase
	}
	return out
}
