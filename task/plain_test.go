package task_test

import (
	"fmt"
	"math/rand"
	"slices"
	"testing"

	"hornbeam/api"
	"hornbeam/task"
)

// plain does what the chapter says in the simplest way: a list for each source.
type plain struct {
	lists [4][]api.Task
}

func (p *plain) post(source int, t api.Task) int {
	if source < 0 || source > 3 {
		return errArg
	}
	if len(p.lists[source]) == most {
		return errFull
	}
	p.lists[source] = append(p.lists[source], t)
	return ok
}

func (p *plain) ready() []int {
	var l []int
	for source, tasks := range p.lists {
		if len(tasks) > 0 {
			l = append(l, source)
		}
	}
	return l
}

func (p *plain) next(pick int) (api.Task, int, bool) {
	l := p.ready()
	if len(l) == 0 {
		return api.Task{}, 0, false
	}
	n := len(l)
	source := l[((pick%n)+n)%n]
	t := p.lists[source][0]
	p.lists[source] = p.lists[source][1:]
	return t, source, true
}

func (p *plain) len() int {
	n := 0
	for _, tasks := range p.lists {
		n += len(tasks)
	}
	return n
}

// twin is a queue beside a plain one.
type twin struct {
	q *task.Queue
	p plain
	n int // tasks so far
}

// post posts a new task to both, and tells the difference.
func (w *twin) post(source int) string {
	w.n++
	x := rich(w.n)
	if got, want := int(w.q.Post(source, x)), w.p.post(source, rich(w.n)); got != want {
		return fmt.Sprintf("Post(%d): %d, not %d", source, got, want)
	}
	spoil(&x)
	return w.told()
}

// next takes the next one from both, and tells the difference.
func (w *twin) next(pick int) string {
	got, source, is := w.q.Next(pick)
	want, wantSource, wantIs := w.p.next(pick)
	if !same(got, want) || source != wantSource || is != wantIs {
		return fmt.Sprintf("Next(%d): %v, %d, %v, not %v, %d, %v", pick, got, source, is, want, wantSource, wantIs)
	}
	return w.told()
}

func (w *twin) told() string {
	if w.q.Len() != w.p.len() || !slices.Equal(w.q.Ready(), w.p.ready()) {
		return fmt.Sprintf("Len %d, Ready %v: not %d, %v", w.q.Len(), w.q.Ready(), w.p.len(), w.p.ready())
	}
	return ""
}

// P20.1, P20.3: each short row of calls.
func TestEachRowOfCalls(t *testing.T) {
	const kinds, length = 8, 5
	rows := 1
	for range length {
		rows *= kinds
	}
	for number := range rows {
		w := &twin{q: task.New()}
		for i, n := 0, number; i < length; i, n = i+1, n/kinds {
			kind, fault := n%kinds, ""
			if kind < 4 {
				fault = w.post(kind)
			} else {
				fault = w.next(kind - 6) // -2 to 1
			}
			if fault != "" {
				t.Fatalf("row %d, call %d: %s", number, i, fault)
			}
		}
	}
}

// P20.1, P20.3: long rows of calls, in which some calls are more frequent than others, another mixture each time.
func TestRandomCalls(t *testing.T) {
	random := rand.New(rand.NewSource(20))
	for run := range 400 {
		w := &twin{q: task.New()}
		posts, kinds := 1+random.Intn(9), 1+random.Intn(6)
		for i := range 1 + random.Intn(2000) {
			fault := ""
			if random.Intn(10) < posts {
				fault = w.post(random.Intn(kinds) - random.Intn(2)*random.Intn(2))
			} else {
				fault = w.next(random.Int() >> random.Intn(63) * (1 - 2*random.Intn(2)))
			}
			if fault != "" {
				t.Fatalf("run %d, call %d: %s", run, i, fault)
			}
		}
	}
}

// P20.1, P20.3: rows of calls about the limit of a source.
func TestRandomCallsAtTheLimit(t *testing.T) {
	random := rand.New(rand.NewSource(21))
	for run := range 4 {
		w := &twin{q: task.New()}
		for source := range run + 1 {
			for range most - 3 {
				if fault := w.post(source); fault != "" {
					t.Fatal(fault)
				}
			}
		}
		for i := range 8000 {
			fault := ""
			if random.Intn(9) < 5 {
				fault = w.post(random.Intn(run + 1))
			} else {
				fault = w.next(random.Intn(20) - 10)
			}
			if fault != "" {
				t.Fatalf("run %d, call %d: %s", run, i, fault)
			}
		}
	}
}

// P20.3: tasks of one source come in their order, each once, whatever is picked, and whatever is posted in between.
func TestOrderOfASource(t *testing.T) {
	random := rand.New(rand.NewSource(22))
	for range 200 {
		q := task.New()
		var given, come [4]int
		for range 300 {
			source := random.Intn(4)
			if random.Intn(2) == 0 {
				gives(t, "Post", q.Post(source, job(given[source])), ok)
				given[source]++
				continue
			}
			take(t, q, random.Int()-random.Int(), &come)
		}
		for q.Len() > 0 && !t.Failed() {
			take(t, q, random.Int()-random.Int(), &come)
		}
		if given != come || t.Failed() {
			t.Fatalf("given %v, come %v", given, come)
		}
	}
}

// take takes a task, and holds its number against how many of its source have come.
func take(t *testing.T, q *task.Queue, pick int, come *[4]int) {
	t.Helper()
	x, source, is := q.Next(pick)
	if !is {
		return
	}
	if x.What != come[source] {
		t.Errorf("of %d came %d, not %d", source, x.What, come[source])
	}
	come[source]++
}
