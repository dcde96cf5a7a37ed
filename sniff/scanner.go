package sniff

import (
	"strings"
)

const (
	blanks = "\t\n\f\r "
	quotes = "\"'"
)

// scanner goes over bytes; at is the place of the next one.
type scanner struct {
	text string
	at   int
}

func (s *scanner) over() bool { return s.at >= len(s.text) }

// sees asks whether x is next. The letters of x are small ones, those of the text may be of either size.
func (s *scanner) sees(x string) bool {
	if len(s.text)-s.at < len(x) {
		return false
	}
	for i := range len(x) {
		if small(s.text[s.at+i]) != x[i] {
			return false
		}
	}
	return true
}

// isAmong asks whether the byte that far on is one of those. Behind the end none is.
func (s *scanner) isAmong(on int, those string) bool {
	i := s.at + on
	return i < len(s.text) && strings.IndexByte(those, s.text[i]) >= 0
}

func (s *scanner) isLetter(on int) bool {
	i := s.at + on
	return i < len(s.text) && small(s.text[i]) >= 'a' && small(s.text[i]) <= 'z'
}

// pass goes on as long as ask holds of the next byte. Every ask that it is given fails at the end.
func (s *scanner) pass(ask func() bool) {
	for ask() {
		s.at++
	}
}

func (s *scanner) atBlank() bool   { return s.isAmong(0, blanks) }
func (s *scanner) atGap() bool     { return s.isAmong(0, blanks+"/") }
func (s *scanner) inName() bool    { return !s.over() && !s.isAmong(0, blanks+"/>=") }
func (s *scanner) inWord() bool    { return !s.over() && !s.isAmong(0, blanks+">") }
func (s *scanner) inCharset() bool { return !s.over() && !s.isAmong(0, blanks+";") }

// find goes on to the first x, or to the end, if there is none.
func (s *scanner) find(x string) bool {
	for !s.over() && !s.sees(x) {
		s.at++
	}
	return !s.over()
}

// findBehind goes on behind the first x, or to the end, if there is none.
func (s *scanner) findBehind(x string) {
	if s.find(x) {
		s.at += len(x)
	}
}

// quoted takes what stands between the mark that is next and the same one further on.
func (s *scanner) quoted() (string, bool) {
	mark := s.text[s.at : s.at+1]
	s.at++
	from := s.at
	if !s.find(mark) {
		return "", false
	}
	text := s.text[from:s.at]
	s.at++
	return text, true
}

// charset takes the charset of a content; its = is next.
func (s *scanner) charset() (string, bool) {
	s.at++
	s.pass(s.atBlank)
	if s.over() {
		return "", false
	}
	if s.isAmong(0, quotes) {
		return s.quoted()
	}
	from := s.at
	s.pass(s.inCharset)
	return s.text[from:s.at], true
}

// small leaves other bytes than A to Z as they are: the library's ways to small letters know others too.
func small(c byte) byte {
	if c >= 'A' && c <= 'Z' {
		return c - 'A' + 'a'
	}
	return c
}

func smallText(s string) string {
	b := []byte(s)
	for i, c := range b {
		b[i] = small(c)
	}
	return string(b)
}
