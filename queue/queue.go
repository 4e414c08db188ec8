// Package queue: what waits, the most urgent first, for the searches.
package queue

// Queue is a heap: first of all stands what is ahead of the others.
type Queue[T any] struct {
	list  []T
	ahead func(a, b T) bool
}

// New is an empty queue, in the order that ahead tells.
func New[T any](ahead func(a, b T) bool) *Queue[T] {
	return &Queue[T]{ahead: ahead}
}

// Empty tells whether nothing waits.
func (q *Queue[T]) Empty() bool {
	return len(q.list) == 0
}

// First tells what Pop would take out of a queue that is not empty.
func (q *Queue[T]) First() T {
	return q.list[0]
}

// Push puts one in: from the end up to where its parent is not behind it.
func (q *Queue[T]) Push(x T) {
	q.list = append(q.list, x)
	at := len(q.list) - 1
	for at > 0 {
		parent := (at - 1) / 2
		if !q.ahead(x, q.list[parent]) {
			break
		}
		q.list[at] = q.list[parent]
		at = parent
	}
	q.list[at] = x
}

// Pop takes the first one out of a queue that is not empty; the last one sinks from its place down.
func (q *Queue[T]) Pop() T {
	first, end := q.list[0], len(q.list)-1
	x := q.list[end]
	q.list = q.list[:end]
	at := 0
	for {
		child := 2*at + 1
		if child+1 < end && q.ahead(q.list[child+1], q.list[child]) {
			child++
		}
		if child >= end || !q.ahead(q.list[child], x) {
			break
		}
		q.list[at] = q.list[child]
		at = child
	}
	if end > 0 {
		q.list[at] = x
	}
	return first
}
