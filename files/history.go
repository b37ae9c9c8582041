package files

import "slices"

// history is what was changed, in order, at which calls, and the calls that made durable all that had come till then.
// It forgets nothing: power may go at any call, those that are long past among them.
type history[T any] struct {
	changes []T
	calls   []int
	syncs   []int
}

// add puts a change at the end.
func (h *history[T]) add(call int, change T) {
	h.changes = append(h.changes, change)
	h.calls = append(h.calls, call)
}

// sync makes all changes durable.
func (h *history[T]) sync(call int) {
	h.syncs = append(h.syncs, call)
}

// till is the changes that came till a call: those that are durable right behind it, and the others.
func (h *history[T]) till(call int) ([]T, []T) {
	durable := 0
	if n := countTill(h.syncs, call); n > 0 {
		durable = countTill(h.calls, h.syncs[n-1])
	}
	return h.changes[:durable], h.changes[durable:countTill(h.calls, call)]
}

// countTill is how many of some calls, in order, came till another one.
func countTill(calls []int, last int) int {
	n, _ := slices.BinarySearch(calls, last+1)
	return n
}
