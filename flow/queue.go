package flow

import "slices"

// queue holds what waits, each thing once: what comes first goes first.
type queue[T comparable] struct{ waiting []T }

// put lets x wait, if it does not yet.
func (q *queue[T]) put(x T) {
	if !slices.Contains(q.waiting, x) {
		q.waiting = append(q.waiting, x)
	}
}

// take returns what has waited longest; false if nothing waits.
func (q *queue[T]) take() (T, bool) {
	if len(q.waiting) == 0 {
		var none T
		return none, false
	}
	first := q.waiting[0]
	q.waiting = q.waiting[1:]
	return first, true
}
