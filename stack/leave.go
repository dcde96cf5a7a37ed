package stack

// PopTo takes off all up to and with the first element of a name, from the top on; none, if there is no such one.
func (s *Stack) PopTo(name string) bool {
	for i := s.Len() - 1; i >= 0; i-- {
		if x, _ := s.look(s.At(i)); isNamed(x.called, name) {
			s.open.cut(i)
			return true
		}
	}
	return false
}

// Implied takes off elements whose end tags may be left out, but for those of a name: how many.
func (s *Stack) Implied(but string) int {
	return s.leave(func(x called) bool { return isImplied(x) && !isNamed(x, but) })
}

// Thorough takes off elements whose end tags may be left out, parts of tables too: how many.
func (s *Stack) Thorough() int {
	return s.leave(func(x called) bool { return isImplied(x) || isTablePart(x) })
}

// Special tells whether an element is special, be it in the stack or not.
func (s *Stack) Special(id int) bool {
	x, ok := s.look(id)
	return ok && isSpecial(x.called)
}

// leave takes off the top as long as it goes: how many went.
func (s *Stack) leave(goes func(x called) bool) int {
	n := 0
	for s.Len() > 0 {
		if x, _ := s.look(s.Top()); !goes(x.called) {
			break
		}
		s.Pop()
		n++
	}
	return n
}
