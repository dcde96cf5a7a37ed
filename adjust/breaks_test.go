package adjust_test

import (
	"slices"
	"strings"
	"testing"

	"hornbeam/api"
)

// others are kinds that no tag has.
var others = []int{doctype, comment, character, eof, 6, -1, 256, 257, 258, 1 << 32, 1<<32 + 1, minInt, minInt + 1, maxInt}

// P11.2: each start tag that breaks, with any attributes and none; as end tags br and p alone.
func TestBreaksOfEachName(t *testing.T) {
	for _, s := range breakers {
		breaks(t, tag(start, s), true)
		breaks(t, tag(start, s, "x", "color"), true)
		breaks(t, tag(end, s), s == "br" || s == "p")
		breaks(t, tag(end, s, "color", "face", "size"), s == "br" || s == "p")
		for _, kind := range others {
			breaks(t, tag(kind, s), false)
		}
		for _, x := range near(s) {
			breaks(t, tag(start, x), slices.Contains(breakers, x))
			breaks(t, tag(end, x), x == "br" || x == "p")
		}
	}
	for _, s := range []string{"br", "p"} {
		breaks(t, tag(end, s), true)
		breaks(t, api.Token{Kind: end, Name: s, Self: true}, true)
		breaks(t, api.Token{Kind: start, Name: s, Self: true}, true)
	}
}

// P11.2: names that stay in foreign content, foreign ones and HTML's.
func TestBreaksOfOtherNames(t *testing.T) {
	for _, s := range []string{"", "a", "g", "svg", "math", "mi", "title", "desc", "foreignobject", "html", "script", "style", "template", "td", "tr", "form", "input",
		"select", "h", "h0", "h7", "font", "fonts", "bigg", "P", "BR", "Div", "TABLE", "H1", "s\xff", "\xff", "\u017f", "\u017fub", "\u0130", "\u0131", "\u0130mg",
		"stri\u212ae", "ｂ", "p ", " p", "p\x00", strings.Repeat("p", 1<<20)} {
		breaks(t, tag(start, s), false)
		breaks(t, tag(end, s), false)
		breaks(t, tag(start, s, "x", "y"), false)
	}
}

// P11.2: font with each of its three attributes, alone, among others, and all of them.
func TestBreaksOfFont(t *testing.T) {
	three := []string{"color", "face", "size"}
	for _, s := range three {
		breaks(t, tag(start, "font", s), true)
		breaks(t, tag(start, "font", "x", s), true)
		breaks(t, tag(start, "font", s, "x"), true)
		breaks(t, tag(start, "font", "x", "y", s, "z"), true)
		breaks(t, tag(start, "font", s, s), true)
		breaks(t, api.Token{Kind: start, Name: "font", Attrs: []api.Attr{{Name: s}}}, true)
		for _, x := range near(s) {
			breaks(t, tag(start, "font", x), false)
			breaks(t, tag(start, "font", x, s), true)
		}
		for _, kind := range slices.Concat([]int{end}, others) {
			breaks(t, tag(kind, "font", s), false)
		}
		for _, name := range []string{"", "fonts", "fon", "FONT", "Font", "a", "svg", "f\u00f8nt"} {
			breaks(t, tag(start, name, s), false)
		}
	}
	breaks(t, tag(start, "font", three...), true)
	breaks(t, tag(end, "font", three...), false)
	breaks(t, tag(end, "font"), false)
	for _, l := range [][]string{nil, {"x"}, {"", "x", "colour"}, {"COLOR", "Face", "SIZE"}, {"font", "br", "p"}, {"facesize"}, {"\xff"}, {"\u017fize"}} {
		breaks(t, tag(start, "font", l...), false)
	}
	breaks(t, api.Token{Kind: start, Name: "font", Attrs: []api.Attr{{Name: "x", Value: "color"}, {Prefix: "size", Name: "y"}}}, false)
}

// P11.2: an attribute is told by its name alone here, unlike those of the other calls.
func TestBreaksOfFontWithANamespace(t *testing.T) {
	for _, space := range spaces() {
		breaks(t, api.Token{Kind: start, Name: "font", Attrs: []api.Attr{{Space: space, Name: "color"}}}, true)
		breaks(t, api.Token{Kind: start, Name: "font", Attrs: []api.Attr{{Space: space, Name: "x"}}}, false)
	}
}

// P4, P5: what other fields a token has makes no difference, and its attributes stay.
func TestBreaksOfOtherFields(t *testing.T) {
	x := tag(start, "font", "x", "color")
	x.Data, x.System, x.Has, x.Quirks, x.Char, x.Self = "p", "br", 7, true, 'p', true
	for range 3 {
		breaks(t, x, true)
	}
	if len(x.Attrs) != 2 || x.Attrs[0] != (api.Attr{Name: "x", Value: "v"}) || x.Attrs[1] != (api.Attr{Name: "color", Value: "v"}) {
		t.Errorf("the attributes have changed: %s", told(x.Attrs))
	}
	x.Name = ""
	breaks(t, x, false)
	breaks(t, api.Token{}, false)
}
