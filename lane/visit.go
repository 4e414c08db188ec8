package lane

import (
	"wayfare/api"
	"wayfare/heap"
)

// visit is what is done at the heap, one operation behind the other. It is at each time the one that was begun last: Over, Step, Reply and Hold are that one's.
type visit struct {
	*heap.Op
	heap api.Heap
	left []api.Task // of a Push: what is not in the heap; the first of them is begun
	had  []api.Task // of a Pop: what it has taken, in that order
	want int        // of a Pop: how many it takes at most; 0: it is a Push
}

// begin begins the next operation of the heap, which is not refused: shape and keys were looked at when the lane's was made.
func (v *visit) begin() {
	if v.want > 0 {
		v.Op, _ = heap.Pop(v.heap)
	} else {
		v.Op, _ = heap.Push(v.heap, v.left[0])
	}
}

// goOn begins another operation behind one that is over, if there is to be one, and tells whether there is.
func (v *visit) goOn() bool {
	if !v.settle() {
		return false
	}
	v.begin()
	return true
}

// settle takes up what an operation of the heap has come to, and tells whether another one is wanted.
func (v *visit) settle() bool {
	r := v.Reply()
	switch r.Status {
	case api.StDone:
		v.left = v.left[1:]
		return len(v.left) > 0
	case api.StTask:
		v.had = append(v.had, r.Tasks...)
		return len(v.had) < v.want
	}
	return false
}

// beside tells the tasks of which the heap's operation knows nothing: those not begun, the one that found no room, those taken.
func (v *visit) beside() []api.Task {
	if v.want > 0 {
		return v.had
	}
	if v.Over() {
		return v.left
	}
	return v.left[1:]
}

// reply tells what all of it has come to.
func (v *visit) reply() api.Reply {
	switch {
	case v.want > 0 && len(v.had) > 0:
		return api.Reply{Status: api.StTask, Tasks: v.had}
	case v.want > 0:
		return api.Reply{Status: api.StEmpty}
	case len(v.left) > 0:
		return api.Reply{Status: api.StFull, Tasks: v.left}
	}
	return api.Reply{Status: api.StDone}
}
