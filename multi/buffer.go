package multi

import (
	"slices"

	"wayfare/api"
)

// copied is what may be handed out of a buffer: the two share nothing.
func copied(buffer []api.Task) []api.Task {
	if len(buffer) == 0 {
		return nil
	}
	out := make([]api.Task, len(buffer))
	copy(out, buffer)
	return out
}

// takeBuffered answers out's first task, or one of in that is more urgent.
func (h *Handle) takeBuffered() {
	if i := leastKey(h.in); i >= 0 && h.in[i].Key < h.out[0].Key {
		t := h.in[i]
		h.in = slices.Delete(h.in, i, i+1)
		h.end(api.StTask, t)
		return
	}
	h.handOut(h.out)
}

// leastKey tells where the first of those with the least key is, -1 if there are none.
func leastKey(l []api.Task) int {
	at := -1
	for i, t := range l {
		if at < 0 || t.Key < l[at].Key {
			at = i
		}
	}
	return at
}

// handOut answers the first of some tasks, and keeps the others: it is cut off from them, so that no append to it reaches into what is kept.
func (h *Handle) handOut(tasks []api.Task) {
	first := copied(tasks[:1:1])
	h.out = tasks[1:]
	h.end(api.StTask, first...)
}

// buffered tells the tasks in the buffers, but for those that an operation of a lane tells with the lane's.
func (h *Handle) buffered() []api.Task {
	if h == nil {
		return nil
	}
	if h.pushing && h.locks(h.lane) {
		return copied(h.out)
	}
	return append(copied(h.in), h.out...)
}
