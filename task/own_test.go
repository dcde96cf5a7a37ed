package task_test

import (
	"testing"

	"hornbeam/api"
	"hornbeam/task"
)

// spoil changes each byte and each act of a task, and what is behind them.
func spoil(x *api.Task) {
	for i := range x.Bytes {
		x.Bytes[i] = 'X'
	}
	for i := range x.Acts {
		x.Acts[i] = api.Act{What: 99, A: 99, B: 99, C: 99, Text: "changed", More: "changed"}
	}
	_ = append(x.Bytes, 'X')
	_ = append(x.Acts, api.Act{What: 99})
	x.What = 99
}

// P4: a task that the caller changes behind Post comes as it was posted.
func TestHandedInIsNotKept(t *testing.T) {
	for _, source := range all {
		q := task.New()
		x := rich(3)
		gives(t, "Post", q.Post(source, x), ok)
		gives(t, "Post of the same", q.Post(source, x), ok)
		spoil(&x)
		gives(t, "Post of the changed one", q.Post(source, x), ok)
		comes(t, q, 0, rich(3), source)
		x.Bytes[0], x.Acts[0].Text = 'Y', "changed again"
		comes(t, q, 0, rich(3), source)
		changed := rich(3)
		spoil(&changed)
		comes(t, q, 0, changed, source)
	}
}

// P4: one field of an act, or one byte, is changed, in each place.
func TestEachPartIsNotKept(t *testing.T) {
	for i := range rich(1).Acts {
		for _, change := range []func(*api.Act){
			func(a *api.Act) { a.What++ },
			func(a *api.Act) { a.A++ },
			func(a *api.Act) { a.B++ },
			func(a *api.Act) { a.C++ },
			func(a *api.Act) { a.Text += "x" },
			func(a *api.Act) { a.More += "x" },
		} {
			q, x := task.New(), rich(1)
			gives(t, "Post", q.Post(1, x), ok)
			change(&x.Acts[i])
			comes(t, q, 0, rich(1), 1)
		}
	}
	for i := range rich(1).Bytes {
		q, x := task.New(), rich(1)
		gives(t, "Post", q.Post(1, x), ok)
		x.Bytes[i]++
		comes(t, q, 0, rich(1), 1)
	}
}

// P4: what is handed in is not changed, behind its end neither, whatever is done with what comes out.
func TestHandedInStays(t *testing.T) {
	whole := rich(1)
	x := whole
	x.Bytes, x.Acts = x.Bytes[:2], x.Acts[:1]
	for _, source := range []int{0, 3, -1, 4} {
		q := task.New()
		q.Post(source, x)
		q.Post(source, api.Task{Bytes: x.Bytes[:0], Acts: x.Acts[:0]})
		for range 2 {
			got, _, _ := q.Next(0)
			spoil(&got)
		}
		if !same(whole, rich(1)) {
			t.Fatalf("source %d: what was handed in has changed: %v", source, whole)
		}
	}
	q := task.New()
	fill(t, q, 0, 0)
	gives(t, "Post to a full source", q.Post(0, x), errFull)
	if !same(whole, rich(1)) {
		t.Errorf("what was refused has changed: %v", whole)
	}
}

// P4: tasks that come out share nothing, neither with each other nor with those that wait, though one task was posted more than once.
func TestToldIsNew(t *testing.T) {
	q, x := task.New(), rich(7)
	for range 4 {
		gives(t, "Post", q.Post(2, x), ok)
	}
	a, _, _ := q.Next(0)
	b, _, _ := q.Next(0)
	spoil(&a)
	if !same(b, rich(7)) {
		t.Errorf("two answers share memory: %v", b)
	}
	comes(t, q, 0, rich(7), 2)
	gives(t, "Post of what came out", q.Post(2, b), ok)
	spoil(&b)
	comes(t, q, 0, rich(7), 2)
	comes(t, q, 0, rich(7), 2)
	none(t, q, 0)
}

// P4, P5: two queues with the same task share nothing.
func TestQueuesShareNothing(t *testing.T) {
	a, b, x := task.New(), task.New(), rich(8)
	gives(t, "Post", a.Post(0, x), ok)
	gives(t, "Post", b.Post(0, x), ok)
	got, _, _ := a.Next(0)
	spoil(&got)
	spoil(&x)
	comes(t, b, 0, rich(8), 0)
}

// The document doesn't speak of a queue that is copied as a value: it stays the same queue, as nothing of it is kept twice.
func TestCopyIsTheSameQueue(t *testing.T) {
	q := posted(t, 1, 3)
	c := *q
	gives(t, "Post", c.Post(0, job(5)), ok)
	waits(t, q, 3, 0, 1, 3)
	comes(t, q, 2, job(1), 3)
	waits(t, &c, 2, 0, 1)
	comes(t, &c, 0, job(5), 0)
	comes(t, q, 0, job(0), 1)
	none(t, &c, 0)
}
