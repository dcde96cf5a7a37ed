package task_test

import (
	"bytes"
	"math"
	"slices"
	"testing"

	"hornbeam/api"
	"hornbeam/task"
)

// Errors and limits by the document's numbers: a test leans on no constant that the program reads.
const (
	ok      = 0
	errArg  = 1
	errZero = 7
	errFull = 9
	most    = 4096 // tasks of a source
	minInt  = math.MinInt
	maxInt  = math.MaxInt
)

// all are the sources.
var all = []int{0, 1, 2, 3}

// wrongSources are numbers of no source, at the ends of int and of smaller kinds too, and those that a source's number is a part of.
var wrongSources = []int{-1, 4, -2, -3, -4, 5, 7, 8, 255, 256, 257, 1 << 16, 1 << 31, 1<<31 - 1, -1 << 31, 1 << 32, 1<<32 + 1, minInt, minInt + 1, maxInt, maxInt - 1}

// job is a task that is told apart by its number.
func job(n int) api.Task {
	return api.Task{What: n}
}

// rich is a task of which each field tells its number.
func rich(n int) api.Task {
	b := byte(n)
	return api.Task{
		What:  n,
		Bytes: []byte{b, 0, b + 1, 0xFF},
		Acts:  []api.Act{{What: n, A: n + 1, B: n + 2, C: -n, Text: string(rune('a' + n%26)), More: "\xff\x00"}, {}, {Text: "t", More: "m"}},
	}
}

// gives fails, unless the call's errno is as wanted.
func gives[E ~int](t *testing.T, what string, got E, want int) {
	t.Helper()
	if int(got) != want {
		t.Errorf("%s: error %d, not %d", what, int(got), want)
	}
}

// waits holds what a queue tells of itself against what is wanted.
func waits(t *testing.T, q *task.Queue, length int, ready ...int) {
	t.Helper()
	if q.Len() != length || !slices.Equal(q.Ready(), ready) {
		t.Errorf("Len %d, Ready %v: not %d, %v", q.Len(), q.Ready(), length, ready)
	}
}

// same tells whether two tasks are, an empty list being nil.
func same(a, b api.Task) bool {
	return a.What == b.What && bytes.Equal(a.Bytes, b.Bytes) && slices.Equal(a.Acts, b.Acts)
}

// comes fails, unless that task of that source is the next one.
func comes(t *testing.T, q *task.Queue, pick int, want api.Task, source int) {
	t.Helper()
	if got, s, is := q.Next(pick); !same(got, want) || s != source || !is {
		t.Errorf("Next(%d): %v, %d, %v; want %v, %d", pick, got, s, is, want, source)
	}
}

// none fails, unless nothing comes.
func none(t *testing.T, q *task.Queue, pick int) {
	t.Helper()
	if got, s, is := q.Next(pick); !same(got, api.Task{}) || s != 0 || is {
		t.Errorf("Next(%d): %v, %d, %v; want nothing", pick, got, s, is)
	}
}

// posted is a queue to which tasks were posted, one for each source that is named, numbered from 0 on.
func posted(t *testing.T, to ...int) *task.Queue {
	t.Helper()
	q := task.New()
	for n, source := range to {
		gives(t, "Post", q.Post(source, job(n)), ok)
	}
	return q
}

// fill gives a source as many tasks as it may have, numbered from a number on.
func fill(t *testing.T, q *task.Queue, source, from int) {
	t.Helper()
	for n := range most {
		if e := q.Post(source, job(from+n)); e != ok {
			t.Fatalf("Post %d to %d: error %d", n, source, e)
		}
	}
}
