package stack_test

import (
	"testing"

	"hornbeam/api"
	"hornbeam/stack"
)

// P12.4: a nil stack, and those that no call made, with every call, twice over: no call makes one of them a stack.
func TestZero(t *testing.T) {
	var field struct{ s stack.Stack }
	refused, _ := stack.New(nil)
	for _, s := range []*stack.Stack{nil, {}, new(stack.Stack), &field.s, refused} {
		for range 2 {
			for _, id := range []int{0, 1, 2, none, -2, 32768, minInt, maxInt} {
				zeroOf(t, s, id)
			}
			for _, name := range []string{"", "html", "p", "\xff"} {
				zeroOfName(t, s, name)
			}
			if s.Pop() != none || s.Top() != none || s.Len() != 0 || s.Thorough() != 0 {
				t.Errorf("Pop: %d, Top: %d, Len: %d, Thorough: %d", s.Pop(), s.Top(), s.Len(), s.Thorough())
			}
		}
	}
}

// zeroOf asks every call that is given a number, as an element, as a place and as a kind.
func zeroOf(t *testing.T, s *stack.Stack, n int) {
	t.Helper()
	for _, e := range []api.Errno{s.Push(n), s.Remove(n), s.Put(0, n), s.Put(n, 1), s.Put(n, n), s.Swap(n, n), s.Swap(n, 1), s.Swap(1, n)} {
		gives(t, "a call", e, errZero)
	}
	if s.At(n) != none || s.Find(n) != -1 || s.Special(n) {
		t.Errorf("At(%d): %d, Find: %d, Special: %v", n, s.At(n), s.Find(n), s.Special(n))
	}
	for _, kind := range append(otherKinds, kinds...) {
		inNodeScope(t, s, n, kind, false)
		inNodeScope(t, s, kind, n, false)
	}
}

func zeroOfName(t *testing.T, s *stack.Stack, name string) {
	t.Helper()
	if s.PopTo(name) || s.Implied(name) != 0 {
		t.Errorf("PopTo, Implied of %q", name)
	}
	for _, kind := range append(otherKinds, kinds...) {
		inScope(t, s, name, kind, false)
	}
}
