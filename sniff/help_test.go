package sniff_test

import (
	"bytes"
	"regexp"
	"strings"
	"testing"

	"hornbeam/label"
	"hornbeam/sniff"
)

// Encodings, errors and the limit by the document's numbers: a test leans on no constant that the program reads.
const (
	utf8 = iota
	utf16le
	utf16be
	windows
	latin9
	cyrillic
	user
)

const (
	none   = -1 // what a test wants where the answer is errNone
	errOK  = 0
	errNot = 6
	most   = 1024
)

const blanks = "\t\n\f\r "

// short is a text that may stand in a test's message.
func short(s string) string {
	if len(s) > 120 {
		return s[:60] + " .. " + s[len(s)-60:]
	}
	return s
}

// lower makes A to Z small, and nothing else.
func lower(s string) string {
	b := []byte(s)
	for i, c := range b {
		if c >= 65 && c <= 90 {
			b[i] = c + 32
		}
	}
	return string(b)
}

// upper makes a to z great, and nothing else.
func upper(s string) string {
	b := []byte(s)
	for i, c := range b {
		if c >= 97 && c <= 122 {
			b[i] = c - 32
		}
	}
	return string(b)
}

// prescan is Prescan's encoding, or none. What was handed in must be as it was, behind its end too.
func prescan(t *testing.T, s string) int {
	t.Helper()
	whole := []byte(s + "<meta charset=cyrillic>")
	b := whole[:len(s)]
	if len(s) == 0 {
		b = nil
	}
	enc, e := sniff.Prescan(b)
	if !bytes.Equal(whole, []byte(s+"<meta charset=cyrillic>")) {
		t.Errorf("Prescan(%q) has changed its bytes", short(s))
	}
	switch {
	case e == errNot && enc == 0:
		return none
	case e != errOK || enc < 0 || enc > 6:
		t.Errorf("Prescan(%q): %d, %d", short(s), enc, e)
	}
	return enc
}

// tells holds Prescan against what is wanted.
func tells(t *testing.T, s string, want int) {
	t.Helper()
	if enc := prescan(t, s); enc != want {
		t.Errorf("Prescan(%q): %d; want %d", short(s), enc, want)
	}
}

// hasContent holds Content against what is wanted.
func hasContent(t *testing.T, s, want string) {
	t.Helper()
	if got, ok := sniff.Content(s); got != want || !ok {
		t.Errorf("Content(%q): %q, %v; want %q", short(s), short(got), ok, short(want))
	}
}

func hasNoContent(t *testing.T, s string) {
	t.Helper()
	if got, ok := sniff.Content(s); got != "" || ok {
		t.Errorf("Content(%q): %q, %v; want none", short(s), short(got), ok)
	}
}

// The chapter's words once more, as expressions of what stands at the beginning of a text.
var (
	aMeta    = regexp.MustCompile(`^<meta[\t\n\f\r /]`)
	aTag     = regexp.MustCompile(`^</?[a-z][^\t\n\f\r >]*`)
	aGap     = regexp.MustCompile(`^[\t\n\f\r /]*`)
	aName    = regexp.MustCompile(`^[^\t\n\f\r />][^\t\n\f\r />=]*`)
	anEquals = regexp.MustCompile(`^[\t\n\f\r ]*=[\t\n\f\r ]*`)
	aBlank   = regexp.MustCompile(`^[\t\n\f\r ]*`)
	aWord    = regexp.MustCompile(`^[^\t\n\f\r >]*`)
	aCharset = regexp.MustCompile(`[cC][hH][aA][rR][sS][eE][tT][\t\n\f\r ]*=[\t\n\f\r ]*`)
	anEnd    = regexp.MustCompile(`[\t\n\f\r ;]`)
)

// plainContent is Content by an expression.
func plainContent(s string) (string, bool) {
	at := aCharset.FindStringIndex(s)
	if at == nil || at[1] == len(s) {
		return "", false
	}
	s = s[at[1]:]
	if s[0] == '"' || s[0] == '\'' {
		text, _, found := strings.Cut(s[1:], s[:1])
		if !found {
			return "", false
		}
		return text, true
	}
	return anEnd.Split(s, 2)[0], true
}

// plainAttr takes an attribute off a text of small letters: its name, its value, what is left, and whether there is one.
func plainAttr(s string) (string, string, string, bool) {
	s = s[len(aGap.FindString(s)):]
	if s == "" || s[0] == '>' {
		return "", "", s[min(1, len(s)):], false
	}
	name := aName.FindString(s)
	s = s[len(name):]
	if s == "" {
		return "", "", "", false
	}
	equals := anEquals.FindString(s)
	if equals == "" {
		return name, "", s[len(aBlank.FindString(s)):], true
	}
	s = s[len(equals):]
	if s != "" && (s[0] == '"' || s[0] == '\'') {
		value, rest, found := strings.Cut(s[1:], s[:1])
		if !found {
			return "", "", "", false
		}
		return name, value, rest, true
	}
	value := aWord.FindString(s)
	if len(value) == len(s) {
		return "", "", "", false
	}
	return name, value, s[len(value):], true
}

// plainAttrs takes all attributes of a tag: each name's first value, and what is left.
func plainAttrs(s string) (map[string]string, string) {
	all := map[string]string{}
	for {
		name, value, rest, ok := plainAttr(s)
		s = rest
		if !ok {
			return all, s
		}
		if _, twice := all[name]; !twice {
			all[name] = value
		}
	}
}

// plainMeta is what a meta tag's attributes tell, in whatever order they stand: a charset goes ahead of a content.
func plainMeta(attrs map[string]string) int {
	text, ok := attrs["charset"]
	if !ok {
		text, ok = plainContent(attrs["content"])
		ok = ok && attrs["http-equiv"] == "content-type"
	}
	enc, e := label.Of(text)
	if !ok || e != errOK {
		return none
	}
	return []int{utf8, utf8, utf8, windows, latin9, cyrillic, windows}[enc]
}

// behind is what stands behind the first x, or nothing.
func behind(s, x string) string {
	_, rest, _ := strings.Cut(s, x)
	return rest
}

// plain is Prescan by expressions. Letters' size makes no difference anywhere, so all are made small at once.
func plain(s string) int {
	s = lower(s[:min(len(s), most)])
	var attrs map[string]string
	for s != "" {
		switch {
		case strings.HasPrefix(s, "<!--"):
			s = behind(s[2:], "-->")
		case aMeta.MatchString(s):
			attrs, s = plainAttrs(s[5:])
			if enc := plainMeta(attrs); enc != none {
				return enc
			}
		case aTag.MatchString(s):
			_, s = plainAttrs(s[len(aTag.FindString(s)):])
		case strings.HasPrefix(s, "<!"), strings.HasPrefix(s, "</"), strings.HasPrefix(s, "<?"):
			s = behind(s, ">")
		default:
			s = s[1:]
		}
	}
	return none
}

// asPlain holds Prescan against the plain way, and tells the answer.
func asPlain(t *testing.T, s string) int {
	t.Helper()
	want := plain(s)
	tells(t, s, want)
	return want
}
