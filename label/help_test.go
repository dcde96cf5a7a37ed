package label_test

import (
	"testing"

	"hornbeam/api"
	"hornbeam/label"
)

// encoding is a row of the chapter's table.
type encoding struct {
	name   string
	labels []string
}

// table is the chapter's, its rows in the order of the encodings' numbers: a test leans on no constant that the program
// reads.
var table = []encoding{
	{"UTF-8", []string{"utf-8", "utf8", "unicode-1-1-utf-8", "unicode11utf8", "unicode20utf8", "x-unicode20utf8"}},
	{"UTF-16LE", []string{"utf-16", "utf-16le", "unicode", "ucs-2", "iso-10646-ucs-2", "csunicode", "unicodefeff"}},
	{"UTF-16BE", []string{"utf-16be", "unicodefffe"}},
	{"windows-1252", []string{"windows-1252", "latin1", "iso-8859-1", "iso8859-1", "iso_8859-1", "ascii", "us-ascii",
		"cp1252", "x-cp1252", "l1", "ibm819", "cp819"}},
	{"ISO-8859-15", []string{"iso-8859-15", "iso8859-15", "iso_8859-15", "l9", "csisolatin9"}},
	{"ISO-8859-5", []string{"iso-8859-5", "iso8859-5", "iso_8859-5", "cyrillic", "csisolatincyrillic", "iso-ir-144"}},
	{"x-user-defined", []string{"x-user-defined"}},
}

const (
	ends   = "\t\n\f\r "
	minInt = -1 << 63
	maxInt = 1<<63 - 1
)

// byLabel is the table turned round.
func byLabel() map[string]int {
	all := map[string]int{}
	for enc, x := range table {
		for _, s := range x.labels {
			all[s] = enc
		}
	}
	return all
}

var encodings = byLabel()

// labels are all labels, row by row.
func labels() []string {
	var all []string
	for _, x := range table {
		all = append(all, x.labels...)
	}
	return all
}

func isEnd(c byte) bool { return c == 9 || c == 10 || c == 12 || c == 13 || c == 32 }

// plain is a label's encoding in the chapter's words, slowly: -1 is none.
func plain(s string) int {
	b := []byte(s)
	for len(b) > 0 && isEnd(b[0]) {
		b = b[1:]
	}
	for len(b) > 0 && isEnd(b[len(b)-1]) {
		b = b[:len(b)-1]
	}
	for i, c := range b {
		if c >= 65 && c <= 90 {
			b[i] = c + 32
		}
	}
	if enc, ok := encodings[string(b)]; ok {
		return enc
	}
	return -1
}

// short is a text that may stand in a test's message.
func short(s string) string {
	if len(s) > 60 {
		return s[:60] + " .."
	}
	return s
}

func hasLabel(t *testing.T, s string, want int) {
	t.Helper()
	if enc, e := label.Of(s); enc != want || e != api.OK {
		t.Errorf("Of(%q): %d, %d; want %d", short(s), enc, e, want)
	}
}

func isNoLabel(t *testing.T, s string) {
	t.Helper()
	if enc, e := label.Of(s); enc != 0 || e != 40 {
		t.Errorf("Of(%q): %d, %d; want error 40", short(s), enc, e)
	}
}

// asPlain holds Of against the plain way.
func asPlain(t *testing.T, s string) {
	t.Helper()
	if want := plain(s); want >= 0 {
		hasLabel(t, s, want)
	} else {
		isNoLabel(t, s)
	}
}
