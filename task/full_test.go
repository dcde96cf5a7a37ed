package task_test

import (
	"testing"

	"hornbeam/task"
)

// P20.1: as many tasks of one source as there may be, and one more; the others have their own room.
func TestFull(t *testing.T) {
	for _, source := range all {
		q := task.New()
		fill(t, q, source, 0)
		waits(t, q, most, source)
		for range 3 {
			gives(t, "one more", q.Post(source, job(-1)), errFull)
			waits(t, q, most, source)
		}
		other := (source + 1) % 4
		gives(t, "one of another source", q.Post(other, job(-2)), ok)
		if q.Len() != most+1 || len(q.Ready()) != 2 {
			t.Errorf("Len %d, Ready %v", q.Len(), q.Ready())
		}
		gives(t, "one more", q.Post(source, job(-1)), errFull)
		pick := 1
		if other < source {
			pick = 0
		}
		comes(t, q, pick, job(-2), other)
		for n := range most {
			comes(t, q, n, job(n), source)
		}
		waits(t, q, 0)
		none(t, q, 0)
	}
}

// P20.1: a source that was full has room again for as many as have gone, one by one and all at once.
func TestRoomAgain(t *testing.T) {
	q := task.New()
	fill(t, q, 2, 0)
	next := most
	for taken := range 2*most + 100 {
		comes(t, q, taken, job(taken), 2)
		waits(t, q, most-1, 2)
		gives(t, "Post", q.Post(2, job(next)), ok)
		gives(t, "one more", q.Post(2, job(-1)), errFull)
		waits(t, q, most, 2)
		next++
		if t.Failed() {
			t.Fatalf("turn %d", taken)
		}
	}
	for n := next - most; n < next; n++ {
		comes(t, q, 0, job(n), 2)
	}
	waits(t, q, 0)
	fill(t, q, 2, 7)
	gives(t, "one more", q.Post(2, job(-1)), errFull)
	for range 10 {
		q.Next(0)
	}
	for n := range 10 {
		gives(t, "Post", q.Post(2, job(n)), ok)
	}
	gives(t, "one more", q.Post(2, job(-1)), errFull)
	waits(t, q, most, 2)
	comes(t, q, 0, job(17), 2)
}

// P20.1: all sources full at once; each has room alone behind what goes from it.
func TestAllFull(t *testing.T) {
	q := task.New()
	for _, source := range all {
		fill(t, q, source, 10000*source)
	}
	waits(t, q, 4*most, all...)
	for _, source := range all {
		gives(t, "one more", q.Post(source, job(-1)), errFull)
	}
	waits(t, q, 4*most, all...)
	comes(t, q, 1, job(10000), 1)
	for _, source := range all {
		if source != 1 {
			gives(t, "one more", q.Post(source, job(-1)), errFull)
		}
	}
	waits(t, q, 4*most-1, all...)
	gives(t, "Post", q.Post(1, job(5)), ok)
	gives(t, "one more", q.Post(1, job(-1)), errFull)
	for _, source := range all {
		for n := range most {
			want := job(10000*source + n)
			if source == 1 {
				want.What++
				if n == most-1 {
					want.What = 5
				}
			}
			comes(t, q, 0, want, source)
		}
		waits(t, q, most*(3-source), all[source+1:]...)
	}
	none(t, q, 0)
}
