// Package task: lists of tasks, for the layers that hold some: see DOC.md, Words.
package task

import (
	"cmp"
	"slices"

	"wayfare/api"
)

// Sort sorts by Key, then by Load.
func Sort(l []api.Task) {
	slices.SortFunc(l, func(a, b api.Task) int {
		return cmp.Or(cmp.Compare(a.Key, b.Key), cmp.Compare(a.Load, b.Load))
	})
}

// AnyNever tells whether one of them may go into no heap, lane or pool.
func AnyNever(l []api.Task) bool {
	return slices.ContainsFunc(l, func(t api.Task) bool { return t.Key == api.Never })
}
