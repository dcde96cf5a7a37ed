package quirk_test

import (
	"fmt"
	"slices"
	"strings"
	"testing"

	"hornbeam/api"
	"hornbeam/quirk"
)

// Modes, kinds and parts by the document's numbers: a test leans on no constant that the program reads.
const (
	noQuirks = 0
	limited  = 1
	quirks   = 2

	doctype = 0

	named  = 1
	public = 2
	system = 4

	minInt = -1 << 63
	maxInt = 1<<63 - 1
)

const ibm = "http://www.ibm.com/data/dtd/v11/ibmxhtml1-transitional.dtd"

// wholes are the public identifiers that the promise names.
var wholes = []string{"-//W3O//DTD W3 HTML Strict 3.0//EN//", "-/W3C/DTD HTML 4.0 Transitional/EN", "HTML"}

// olds are the chapter's old beginnings, word for word.
var olds = strings.Split("+//Silmaril//dtd html Pro v0r11 19970101//|-//AS//DTD HTML 3.0 asWedit + extensions//|"+
	"-//IETF//DTD HTML 2.0 Level 1//|-//IETF//DTD HTML 2.0 Level 2//|-//IETF//DTD HTML 2.0 Strict//|"+
	"-//IETF//DTD HTML 2.0//|-//IETF//DTD HTML 2.1E//|-//IETF//DTD HTML 3.0//|-//IETF//DTD HTML 3.2 Final//|"+
	"-//IETF//DTD HTML 3.2//|-//IETF//DTD HTML 3//|-//IETF//DTD HTML Strict//|-//IETF//DTD HTML//|"+
	"-//Microsoft//DTD Internet Explorer 2.0 HTML//|-//Microsoft//DTD Internet Explorer 3.0 HTML//|"+
	"-//Netscape Comm. Corp.//DTD HTML//|-//SQ//DTD HTML 2.0 HoTMetaL + extensions//|"+
	"-//Spyglass//DTD HTML 2.0 Extended//|-//Sun Microsystems Corp.//DTD HotJava HTML//|"+
	"-//W3C//DTD HTML 3 1995-03-24//|-//W3C//DTD HTML 3.2 Draft//|-//W3C//DTD HTML 3.2 Final//|"+
	"-//W3C//DTD HTML 3.2//|-//W3C//DTD HTML 4.0 Frameset//|-//W3C//DTD HTML 4.0 Transitional//|"+
	"-//W3C//DTD HTML Experimental 19960712//|-//W3C//DTD W3 HTML//|-//W3O//DTD W3 HTML 3.0//|"+
	"-//WebTechs//DTD Mozilla HTML//", "|")

var transitionals = []string{"-//W3C//DTD HTML 4.01 Frameset//", "-//W3C//DTD HTML 4.01 Transitional//"}

var limiteds = []string{"-//W3C//DTD XHTML 1.0 Frameset//", "-//W3C//DTD XHTML 1.0 Transitional//"}

// beginnings are all that an identifier may begin with.
func beginnings() []string { return slices.Concat(olds, transitionals, limiteds) }

// withName, withPublic, withSystem and withBoth are doctypes that have what they are named for.
func withName(name string) api.Token { return api.Token{Name: name, Has: named} }

func withPublic(id string) api.Token { return api.Token{Name: "html", Data: id, Has: named | public} }

func withSystem(id string) api.Token { return api.Token{Name: "html", System: id, Has: named | system} }

func withBoth(id, sys string) api.Token {
	return api.Token{Name: "html", Data: id, System: sys, Has: named | public | system}
}

// told is a token as it may stand in a test's message.
func told(x api.Token) string {
	return fmt.Sprintf("kind %d, has %d, quirks %v, %.80q %.80q %.80q", x.Kind, x.Has, x.Quirks, x.Name, x.Data, x.System)
}

func isMode(t *testing.T, x api.Token, want int) {
	t.Helper()
	if got := quirk.Mode(x); got != want {
		t.Errorf("Mode(%s): %d; want %d", told(x), got, want)
	}
}

func isGood(t *testing.T, x api.Token, want bool) {
	t.Helper()
	if got := quirk.Good(x); got != want {
		t.Errorf("Good(%s): %v; want %v", told(x), got, want)
	}
}

// lower is a text with A to Z as a to z, upper the other way round, other bytes as they are.
func lower(s string) string { return shift(s, 65, 90, 32) }

func upper(s string) string { return shift(s, 97, 122, 224) }

func shift(s string, from, to, by byte) string {
	b := []byte(s)
	for i, c := range b {
		if c >= from && c <= to {
			b[i] = c + by
		}
	}
	return string(b)
}

// mixed is a text with its letters large and small by turns.
func mixed(s string) string {
	b := []byte(lower(s))
	for i := 0; i < len(b); i += 2 {
		b[i] = upper(string(b[i : i+1]))[0]
	}
	return string(b)
}

// sizes are a text in letters of several sizes.
func sizes(s string) []string { return []string{s, lower(s), upper(s), mixed(s)} }

// part is the text of a part that a doctype has: none, if it does not have it.
func part(x api.Token, bit int, s string) []string {
	if x.Has/bit%2 == 0 {
		return nil
	}
	return []string{lower(s)}
}

// isOne tells whether a part is there and is one of the texts; beginsOne whether it begins with one.
func isOne(part, texts []string) bool {
	for _, s := range texts {
		if len(part) > 0 && part[0] == lower(s) {
			return true
		}
	}
	return false
}

func beginsOne(part, texts []string) bool {
	for _, s := range texts {
		if len(part) > 0 && strings.Index(part[0], lower(s)) == 0 {
			return true
		}
	}
	return false
}

// plainMode is the promise, one sentence behind the other.
func plainMode(x api.Token) int {
	if x.Kind != doctype {
		return quirks
	}
	name, pub, sys := part(x, named, x.Name), part(x, public, x.Data), part(x, system, x.System)
	if x.Quirks || !isOne(name, []string{"html"}) || isOne(pub, wholes) || beginsOne(pub, olds) {
		return quirks
	}
	if isOne(sys, []string{ibm}) || len(sys) == 0 && beginsOne(pub, transitionals) {
		return quirks
	}
	if beginsOne(pub, limiteds) || len(sys) == 1 && beginsOne(pub, transitionals) {
		return limited
	}
	return noQuirks
}

func plainGood(x api.Token) bool {
	if x.Kind != doctype {
		return false
	}
	sys := part(x, system, x.System)
	return len(part(x, named, "")) == 1 && x.Name == "html" && len(part(x, public, "")) == 0 &&
		(len(sys) == 0 || isOne(sys, []string{"about:legacy-compat"}))
}

func asPlain(t *testing.T, x api.Token) {
	t.Helper()
	isMode(t, x, plainMode(x))
	isGood(t, x, plainGood(x))
}
