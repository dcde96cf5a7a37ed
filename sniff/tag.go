package sniff

// step goes on behind what is next; the encoding and true, if that tells one. What has no end goes on to the end of all.
func (s *scanner) step() (int, bool) {
	switch {
	case s.sees("<!--"):
		// Its dashes may be those of its end too.
		s.at += len("<!")
		s.findBehind("-->")
	case s.sees("<meta") && s.isAmong(len("<meta"), blanks+"/"):
		s.at += len("<meta")
		return s.meta()
	case s.sees("<") && s.isLetter(1), s.sees("</") && s.isLetter(2):
		s.pass(s.inWord)
		for range s.attributes {
			// They are taken so that a meta tag within a value is none.
		}
	case s.sees("<!"), s.sees("</"), s.sees("<?"):
		s.findBehind(">")
	default:
		s.at++
	}
	return 0, false
}

// attributes takes all that a tag has, and its > behind them.
func (s *scanner) attributes(yield func(name, value string) bool) {
	for {
		name, value, ok := s.attribute()
		if !ok || !yield(name, value) {
			return
		}
	}
}

// attribute takes the next one; false, if there is none, or if the bytes end ahead of its end.
func (s *scanner) attribute() (name, value string, ok bool) {
	s.pass(s.atGap)
	if s.sees(">") {
		s.at++
		goto none
	}
	name = s.name()
	if s.over() {
		goto none
	}
	s.pass(s.atBlank)
	if !s.sees("=") {
		return name, "", true
	}
	s.at++
	s.pass(s.atBlank)
	value, ok = s.value()
	if !ok {
		goto none
	}
	return name, value, true
none:
	return "", "", false
}

// name takes an attribute's name. Its first byte may be a = too.
func (s *scanner) name() string {
	from := s.at
	if s.sees("=") {
		s.at++
	}
	s.pass(s.inName)
	return smallText(s.text[from:s.at])
}

// value takes an attribute's value; false, if the bytes end within it.
func (s *scanner) value() (string, bool) {
	if s.isAmong(0, quotes) {
		text, ok := s.quoted()
		return smallText(text), ok
	}
	from := s.at
	s.pass(s.inWord)
	return smallText(s.text[from:s.at]), !s.over()
}
