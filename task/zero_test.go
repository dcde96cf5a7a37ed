package task_test

import (
	"slices"
	"testing"

	"hornbeam/api"
	"hornbeam/task"
)

// P20.2: a nil queue, and those that no call made, with every call, twice over: no call makes one of them a queue.
func TestZero(t *testing.T) {
	var field struct{ q task.Queue }
	for _, q := range []*task.Queue{nil, {}, new(task.Queue), &field.q} {
		for range 2 {
			for _, source := range slices.Concat(wrongSources, all) {
				for _, x := range []api.Task{{}, rich(1)} {
					gives(t, "Post", q.Post(source, x), errZero)
				}
			}
			for _, pick := range slices.Concat(wrongSources, all) {
				none(t, q, pick)
			}
			waits(t, q, 0)
		}
	}
}

// P20.2: a queue that is overwritten is one that no call made.
func TestOverwritten(t *testing.T) {
	q := posted(t, 0, 1)
	*q = task.Queue{}
	gives(t, "Post", q.Post(0, job(1)), errZero)
	waits(t, q, 0)
	none(t, q, 0)
}
