package script

import "strings"

// maxWords is how many words a line has at most: those of an act.
const maxWords = 7

// line is a line's words, kind by kind.
type line struct {
	form    string // of each word in order: a of a name, 0 of a number, = of a text
	names   []string
	numbers []int
	texts   []string
}

// read tells the words of a line. Of too many words the last ones stay together: its form tells that there are more.
func read(s string) line {
	var l line
	for _, piece := range strings.SplitN(s, " ", maxWords+1) {
		l.add(toWord(piece))
	}
	return l
}

func (l *line) add(w word) {
	switch x := w.(type) {
	case name:
		l.form += "a"
		l.names = append(l.names, string(x))
	case number:
		l.form += "0"
		l.numbers = append(l.numbers, int(x))
	case text:
		l.form += "="
		l.texts = append(l.texts, string(x))
	}
}

// is tells whether it has that first word, and a form, whose first word is a name.
func (l line) is(first, form string) bool {
	return l.form == form && l.names[0] == first
}

// lines are the lines of a script.
func lines(s string) []string {
	var all []string
	from := 0
	for i, r := range s {
		if r == '\n' {
			all = append(all, s[from:i])
			from = i + 1
		}
	}
	return append(all, s[from:])
}
