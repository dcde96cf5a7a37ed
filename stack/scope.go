package stack

// Kinds of scopes, by the numbers that Scope and NodeScope are given.
const (
	theScope    = 0
	listScope   = 1
	buttonScope = 2
	tableScope  = 3
	selectScope = 4
	kinds       = 5
)

// Scope tells whether an element of a name is in a scope.
func (s *Stack) Scope(name string, kind int) bool {
	return s.reaches(kind, func(_ int, x known) bool { return isNamed(x.called, name) })
}

// NodeScope tells whether an element is in a scope.
func (s *Stack) NodeScope(id int, kind int) bool {
	return s.reaches(kind, func(at int, _ known) bool { return at == id })
}

// reaches tells whether, from the top on, what is wanted comes ahead of every border. An element that is both is
// reached.
func (s *Stack) reaches(kind int, wanted func(id int, x known) bool) bool {
	if kind < 0 || kind >= kinds {
		return false
	}
	for i := s.Len() - 1; i >= 0; i-- {
		id := s.At(i)
		x, _ := s.look(id)
		if wanted(id, x) {
			return true
		}
		if x.border[kind] {
			return false
		}
	}
	return false
}

// isBorder tells whether an element ends a scope of that kind.
func isBorder(x called, kind int) bool {
	switch kind {
	case theScope:
		return isPlainBorder(x)
	case listScope:
		return isPlainBorder(x) || isNamed(x, "ol") || isNamed(x, "ul")
	case buttonScope:
		return isPlainBorder(x) || isNamed(x, "button")
	case tableScope:
		return isTableBorder(x)
	case selectScope:
		return !isNamed(x, "optgroup") && !isNamed(x, "option")
	}
	return false
}
