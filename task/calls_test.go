package task_test

import (
	"testing"

	"hornbeam/api"
	"hornbeam/task"
)

// P20.1: New.
func TestNew(t *testing.T) {
	q := task.New()
	if q == nil {
		t.Fatal("no queue")
	}
	waits(t, q, 0)
	for _, pick := range []int{0, 1, -1, minInt, maxInt} {
		none(t, q, pick)
	}
	waits(t, q, 0)
	if task.New() == q {
		t.Error("the same queue twice")
	}
}

// P20.1: the chapter's example, one call after the other.
func TestExample(t *testing.T) {
	q := task.New()
	a, b, c := rich(1), rich(2), rich(3)
	gives(t, "Post", q.Post(1, a), ok)
	waits(t, q, 1, 1)
	gives(t, "Post", q.Post(0, b), ok)
	waits(t, q, 2, 0, 1)
	gives(t, "Post", q.Post(1, c), ok)
	waits(t, q, 3, 0, 1)
	comes(t, q, 1, a, 1)
	waits(t, q, 2, 0, 1)
	comes(t, q, 3, c, 1)
	waits(t, q, 1, 0)
	comes(t, q, 0, b, 0)
	waits(t, q, 0)
	none(t, q, 0)
}

// P20.1: each source, alone.
func TestEachSource(t *testing.T) {
	for _, source := range all {
		q := task.New()
		gives(t, "Post", q.Post(source, rich(5)), ok)
		waits(t, q, 1, source)
		gives(t, "Post", q.Post(source, rich(6)), ok)
		waits(t, q, 2, source)
		comes(t, q, 0, rich(5), source)
		waits(t, q, 1, source)
		comes(t, q, 0, rich(6), source)
		waits(t, q, 0)
		none(t, q, 0)
	}
}

// P20.1: a source that is none; what errs changes nothing, in an empty queue, in one with tasks, in a full one.
func TestWrongSources(t *testing.T) {
	for _, source := range wrongSources {
		q := task.New()
		gives(t, "Post", q.Post(source, rich(1)), errArg)
		gives(t, "Post of a zero task", q.Post(source, api.Task{}), errArg)
		waits(t, q, 0)
		none(t, q, 0)
		q = posted(t, 3, 0, 3)
		gives(t, "Post", q.Post(source, rich(1)), errArg)
		waits(t, q, 3, 0, 3)
		comes(t, q, 1, job(0), 3)
		comes(t, q, 1, job(2), 3)
		comes(t, q, 1, job(1), 0)
		none(t, q, 0)
	}
	q := task.New()
	for _, source := range all {
		fill(t, q, source, 0)
	}
	for _, source := range wrongSources {
		gives(t, "Post to a full queue", q.Post(source, job(1)), errArg)
	}
	waits(t, q, 4*most, all...)
}

// P20.1: a task comes as it was posted, whatever is in it: its kind is nothing that a queue looks at.
func TestTaskIsKept(t *testing.T) {
	long := make([]byte, 1<<20+1)
	for i := range long {
		long[i] = byte(i * 7)
	}
	acts := make([]api.Act, most+1)
	for i := range acts {
		acts[i] = api.Act{What: i, A: -i, Text: "x"}
	}
	tasks := []api.Task{
		{},
		{What: 1},
		{What: 2, Acts: []api.Act{{}}},
		{What: 0, Bytes: []byte{0}},
		{What: 3}, {What: -1}, {What: minInt}, {What: maxInt},
		{What: 9, Bytes: []byte("\xff\xfe"), Acts: []api.Act{{What: minInt, A: maxInt, B: -1, C: minInt, Text: "\xff", More: "\xed\xa0\x80"}}},
		{Bytes: long, Acts: acts},
		rich(4),
	}
	for _, source := range all {
		q := task.New()
		for _, x := range tasks {
			gives(t, "Post", q.Post(source, x), ok)
		}
		waits(t, q, len(tasks), source)
		for _, x := range tasks {
			comes(t, q, 0, x, source)
		}
		none(t, q, 0)
	}
}

// P20.1, P3: nil and empty lists are the same, and come as lists without anything.
func TestEmptyLists(t *testing.T) {
	for _, x := range []api.Task{{What: 1}, {What: 1, Bytes: []byte{}}, {What: 1, Acts: []api.Act{}}, {What: 1, Bytes: make([]byte, 0, 8), Acts: make([]api.Act, 0, 8)}} {
		q := task.New()
		gives(t, "Post", q.Post(2, x), ok)
		got, source, is := q.Next(0)
		if got.What != 1 || len(got.Bytes) != 0 || len(got.Acts) != 0 || source != 2 || !is {
			t.Errorf("%v: %v, %d, %v", x, got, source, is)
		}
	}
}

// P20.1: a queue from which all has been taken, and to which is posted again, many times over.
func TestEmptiedAndPostedAgain(t *testing.T) {
	q := task.New()
	for n := range 3 * most {
		source := n % 4
		gives(t, "Post", q.Post(source, job(n)), ok)
		gives(t, "Post", q.Post(3-source, job(-n)), ok)
		comes(t, q, source/2, job(n), source) // of the two sources the second one, if it is above 1
		comes(t, q, n, job(-n), 3-source)
		waits(t, q, 0)
		none(t, q, n)
		if t.Failed() {
			t.Fatalf("turn %d", n)
		}
	}
}

// P20.1: Ready and Len change nothing, and Ready's list is a new one each time.
func TestAskingChangesNothing(t *testing.T) {
	q := posted(t, 2, 0, 2)
	first := q.Ready()
	for range 100 {
		waits(t, q, 3, 0, 2)
	}
	first[0], first[1] = 3, 3
	_ = append(first[:0], 9, 9, 9)
	waits(t, q, 3, 0, 2)
	comes(t, q, 0, job(1), 0)
	comes(t, q, 0, job(0), 2)
	waits(t, q, 1, 2)
	comes(t, q, 0, job(2), 2)
}

// P5: queues know nothing of each other.
func TestTwoQueues(t *testing.T) {
	a, b := task.New(), task.New()
	gives(t, "Post", a.Post(1, job(1)), ok)
	waits(t, a, 1, 1)
	waits(t, b, 0)
	none(t, b, 0)
	gives(t, "Post", b.Post(1, job(2)), ok)
	gives(t, "Post", b.Post(3, job(3)), ok)
	gives(t, "Post", a.Post(4, job(9)), errArg)
	comes(t, b, 0, job(2), 1)
	waits(t, a, 1, 1)
	waits(t, b, 1, 3)
	comes(t, a, 0, job(1), 1)
	none(t, a, 0)
	comes(t, b, 0, job(3), 3)
	fill(t, a, 2, 0)
	gives(t, "Post to the full one", a.Post(2, job(1)), errFull)
	gives(t, "Post to the other one", b.Post(2, job(1)), ok)
	waits(t, a, most, 2)
	waits(t, b, 1, 2)
}
