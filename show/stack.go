package show

// stack holds what is still to be gone over. Trees may be as deep as an arena has nodes, so none is gone over by
// calls within calls.
type stack[T any] struct {
	items []T
}

func (s *stack[T]) push(x T) {
	s.items = append(s.items, x)
}

// pop takes off what was put on last. It is asked only where something is there.
func (s *stack[T]) pop() T {
	last := len(s.items) - 1
	x := s.items[last]
	s.items = s.items[:last]
	return x
}

func (s *stack[T]) empty() bool {
	return len(s.items) == 0
}
