package task_test

import (
	"testing"

	"hornbeam/task"
)

// placeOf is a pick's place among n, found by going round from 0 on: step by step, so only for small picks.
func placeOf(pick, n int) int {
	at := 0
	for ; pick > 0; pick-- {
		if at++; at == n {
			at = 0
		}
	}
	for ; pick < 0; pick++ {
		if at--; at < 0 {
			at = n - 1
		}
	}
	return at
}

// subset are the sources that a number's bits name.
func subset(bits int) []int {
	var l []int
	for _, source := range all {
		if bits&(1<<source) != 0 {
			l = append(l, source)
		}
	}
	return l
}

// P20.1: each set of sources that have tasks, with each small pick, on both sides of 0, till nothing is left.
func TestEachPickOfEachSet(t *testing.T) {
	for bits := range 16 {
		for pick := -14; pick <= 14; pick++ {
			left := subset(bits)
			q := task.New()
			for _, source := range left {
				gives(t, "Post", q.Post(source, rich(source)), ok)
			}
			for len(left) > 0 {
				waits(t, q, len(left), left...)
				at := placeOf(pick, len(left))
				comes(t, q, pick, rich(left[at]), left[at])
				left = append(left[:at:at], left[at+1:]...)
			}
			waits(t, q, 0)
			none(t, q, pick)
			if t.Failed() {
				t.Fatalf("sources %v, pick %d", subset(bits), pick)
			}
		}
	}
}

// P20.1, P6: picks at the ends of int, and at those of smaller kinds, with the places written out: -2^63 has the rest -2 by 3, and so the place 1.
func TestPicksAtTheEnds(t *testing.T) {
	for _, c := range []struct {
		pick   int
		places [4]int // among 1, 2, 3, 4 sources
	}{
		{9223372036854775807, [4]int{0, 1, 1, 3}},
		{9223372036854775806, [4]int{0, 0, 0, 2}},
		{9223372036854775805, [4]int{0, 1, 2, 1}},
		{9223372036854775804, [4]int{0, 0, 1, 0}},
		{-9223372036854775808, [4]int{0, 0, 1, 0}},
		{-9223372036854775807, [4]int{0, 1, 2, 1}},
		{-9223372036854775806, [4]int{0, 0, 0, 2}},
		{-9223372036854775805, [4]int{0, 1, 1, 3}},
		{4294967295, [4]int{0, 1, 0, 3}},
		{4294967296, [4]int{0, 0, 1, 0}},
		{4294967298, [4]int{0, 0, 0, 2}},
		{-4294967297, [4]int{0, 1, 1, 3}},
		{2147483647, [4]int{0, 1, 1, 3}},
		{2147483648, [4]int{0, 0, 2, 0}},
		{-2147483648, [4]int{0, 0, 1, 0}},
		{-2147483649, [4]int{0, 1, 0, 3}},
	} {
		for n := 1; n <= 4; n++ {
			for _, set := range setsOf(n) {
				q := posted(t, set...)
				at := c.places[n-1]
				comes(t, q, c.pick, job(at), set[at])
			}
		}
	}
}

// setsOf are all sets of n sources.
func setsOf(n int) [][]int {
	var l [][]int
	for bits := range 16 {
		if set := subset(bits); len(set) == n {
			l = append(l, set)
		}
	}
	return l
}

// P20.1: the pick is among the sources that have tasks, not among the tasks, and not among all sources.
func TestPickIsOfASource(t *testing.T) {
	q := posted(t, 3, 3, 3, 1)
	comes(t, q, 1, job(0), 3)
	comes(t, q, 3, job(1), 3)
	comes(t, q, 2, job(3), 1)
	waits(t, q, 1, 3)
	comes(t, q, 2, job(2), 3)
	none(t, q, 2)
}

// P20.1: posted and picked in turns: a source counts as soon as it has a task, and no longer than it has one.
func TestTurns(t *testing.T) {
	q := task.New()
	gives(t, "Post", q.Post(2, job(1)), ok)
	comes(t, q, 5, job(1), 2)
	waits(t, q, 0)
	gives(t, "Post", q.Post(3, job(2)), ok)
	gives(t, "Post", q.Post(2, job(3)), ok)
	comes(t, q, -1, job(2), 3)
	gives(t, "Post", q.Post(0, job(4)), ok)
	waits(t, q, 2, 0, 2)
	comes(t, q, -1, job(3), 2)
	gives(t, "Post", q.Post(0, job(5)), ok)
	gives(t, "Post", q.Post(1, job(6)), ok)
	waits(t, q, 3, 0, 1)
	comes(t, q, 2, job(4), 0)
	comes(t, q, -2, job(5), 0)
	comes(t, q, -2, job(6), 1)
	none(t, q, -2)
}
