package parse_test

import (
	"math/rand"
	"slices"
	"strconv"
	"strings"
	"testing"

	"hornbeam/api"
	"hornbeam/node"
	"hornbeam/parse"
)

// fragmentOf is the outcome of a fragment that is taken.
func fragmentOf(t *testing.T, s, name string, scripts bool) (*node.Arena, outcome) {
	t.Helper()
	a, r, e := parse.Fragment(s, name, scripts)
	gives(t, "Fragment", e, ok)
	got := outcome{nodesOf(a), resultOf(r.Encoding, r.Mode, r.Errors...), true}
	if slices.Contains(r.Errors, "full") {
		return a, got
	}
	if kids := a.Kids(0); len(kids) != 1 || !strings.HasPrefix(tell(a, 0), "html") {
		t.Errorf("%q in %s: the document has %v", s, name, kids)
	}
	return a, got
}

// P18.2: fragments in each kind of context element.
func TestFragments(t *testing.T) {
	for _, c := range []struct {
		name, text string
		scripts    bool
		tree       string
		errors     string
	}{
		{"div", "", false, "html", ""},
		{"div", "a<p>b<p>c", false, `html("a" p("b") p("c"))`, ""},
		{"div", "<!DOCTYPE html><html a=1><head><body>x</body></html>", false, `html{a=1}("x")`, "tree tree tree tree tree tree"},
		{"body", "x<td>y", false, `html("xy")`, "tree"},
		{"body", "<title><b></title><b>", false, `html(title("<b>") b)`, "tree"},
		{"html", "x", false, `html(head body("x"))`, ""},
		{"html", "<frameset><frame>", false, `html(head frameset(frame))`, "tree"},
		{"head", "<title>a</title><p>b", false, `html(title("a") p("b"))`, ""},
		{"table", "<tr><td>x", false, `html(tbody(tr(td("x"))))`, ""},
		{"tbody", "<tr><td>x", false, `html(tr(td("x")))`, ""},
		{"tr", "<td>x<!--y-->", false, `html(td("x" !"y"))`, ""},
		{"tr", "x", false, `html("x")`, "tree"},
		{"td", "<td>x", false, `html("x")`, "tree"},
		{"caption", "<tr>x", false, `html("x")`, "tree"},
		{"colgroup", "<col>x<col>", false, `html(col col)`, "tree"},
		{"select", "<option>a<option>b<p>c", false, `html(option("a") option("bc"))`, "tree"},
		{"frameset", "<frame>x<frame>", false, `html(frame frame)`, "tree"},
		{"template", "<td>a<td>b", false, `html(td("a") td("b"))`, ""},
		{"form", "<form>a", false, `html("a")`, "tree"},
		{"svg", "<svg><![CDATA[a]]></svg><![CDATA[b]]>", false, `html(svg:svg("a") !"[CDATA[b]]")`, "cdata-in-html-content"},
		{"math", "<mi>a</mi>", false, `html(mi("a"))`, ""},
		{"x-y", "<b><p>1</b>2", false, `html(b p(b("1") "2"))`, "tree"},

		{"title", "<b>&amp;", false, `html("<b>&")`, ""},
		{"textarea", "<b>&amp;", false, `html("<b>&")`, ""},
		{"style", "<b>&amp;", false, `html("<b>&amp;")`, ""},
		{"xmp", "<b>&amp;", false, `html("<b>&amp;")`, ""},
		{"iframe", "<b>&amp;", false, `html("<b>&amp;")`, ""},
		{"noembed", "<b>&amp;", false, `html("<b>&amp;")`, ""},
		{"noframes", "<b>&amp;", false, `html("<b>&amp;")`, ""},
		{"script", "<!--<script></script>&amp;", false, `html("<!--<script></script>&amp;")`, "eof-in-script-html-comment-like-text"},
		{"plaintext", "<b></plaintext>&amp;", false, `html("<b></plaintext>&amp;")`, ""},
		{"noscript", "<b>&amp;", false, `html(b("&"))`, "tree"},
		{"noscript", "<b>&amp;", true, `html("<b>&amp;")`, ""},
		{"TITLE", "<b>&amp;", false, `html(b("&"))`, "tree"},
		{"div", "<noscript><b>", false, `html(noscript(b))`, "tree"},
		{"div", "<noscript><b>", true, `html(noscript("<b>"))`, "tree"},

		// The context's end tag is the right one, and another's is not.
		{"title", "a</title>b<i>", false, `html("ab" i)`, "tree tree"},
		{"title", "a</titl>b<i>", false, `html("a</titl>b<i>")`, ""},
		{"style", "a</STYLE >b", false, `html("ab")`, "tree"},
		{"script", "a</script/>b", false, `html("ab")`, "end-tag-with-trailing-solidus tree"},
		{"textarea", "</title>", false, `html("</title>")`, ""},
	} {
		a, got := fragmentOf(t, c.text, c.name, c.scripts)
		if tree := tell(a, 0); tree != c.tree || !slices.Equal(got.result.Errors, words(c.errors)) || got.result.Encoding != utf8 || got.result.Mode != noQuirks {
			t.Errorf("%q in %s: %s, %v; want %s, %s", c.text, c.name, tree, got.result, c.tree, c.errors)
		}
		same(t, c.text+" in "+c.name, got, plainFragment(c.text, c.name, c.scripts))
	}
}

// P18.2: code points as UTF-8, whatever there is of marks and metas; line ends made one.
func TestFragmentTexts(t *testing.T) {
	for _, c := range []struct{ text, tree string }{
		{"é€😀", `"é€😀"`},
		{"\xef\xbb\xbfa", strconv.Quote("\ufeffa")},
		{"\xff\xfea\x00b", strconv.Quote("\ufffd\ufffdab")},
		{"a\xe2\x82", `"a` + "\ufffd" + `"`},
		{"a\r\nb\rc\n\rd", `"a\nb\nc\n\nd"`},
		{"<meta charset=l9>é", `meta{charset=l9} "é"`},
		{"\r\n", `"\n"`},
	} {
		a, got := fragmentOf(t, c.text, "div", false)
		if tree := tell(a, 0); tree != "html("+c.tree+")" || got.result.Encoding != utf8 {
			t.Errorf("%q: %s, %v; want %s", c.text, tree, got.result, c.tree)
		}
	}
}

// P18.2: names that are refused, and a text that is too long, which is looked at first.
func TestFragmentsThatAreRefused(t *testing.T) {
	long := strings.Repeat("x", maxInput)
	for _, c := range []struct {
		text, name string
		e          api.Errno
	}{
		{"", "", errArg}, {"<p>a", "", errArg}, {"a", strings.Repeat("n", 101), errArg}, {"a", strings.Repeat("é", 51), errArg}, {"", strings.Repeat("n", maxText+1), errArg},
		{"a", strings.Repeat("n", 100), ok}, {"a", strings.Repeat("é", 50), ok}, {"a", "\x00", ok}, {"a", "\xff <>", ok}, {"a", "n", ok},
		{long, "", errArg}, {long + "x", "", errFull}, {long + "x", "div", errFull}, {long + "x", strings.Repeat("n", 101), errFull}, {long + long, "div", errFull},
	} {
		a, r, e := parse.Fragment(c.text, c.name, true)
		if e != c.e {
			t.Errorf("%d bytes in %q: %d; want %d", len(c.text), short(c.name), e, c.e)
		}
		switch {
		case e == ok && tell(a, 0) != `html("a")`:
			t.Errorf("in %q: %s", c.name, tell(a, 0))
		case e != ok && (a != nil || r.Encoding != 0 || r.Mode != 0 || len(r.Errors) != 0):
			t.Errorf("%d bytes in %q: %v beside an error", len(c.text), short(c.name), r)
		}
	}
}

// P18.2: texts of MaxInput bytes, those that lead to as many code points too, and some less.
func TestLongFragments(t *testing.T) {
	for _, c := range []struct {
		unit string
		n    int
	}{{"x", maxInput - 8}, {"x", maxInput - 7}, {"x", maxInput}, {"\r\n", maxInput}, {"\xff", maxInput}, {"<é", maxInput}} {
		s := strings.Repeat(c.unit, c.n)[:c.n]
		_, got := fragmentOf(t, s, "div", false)
		same(t, strconv.Quote(c.unit), got, plainFragment(s, "div", false))
	}
}

// P18.2: a fragment that fills its arena.
func TestFullFragment(t *testing.T) {
	s := strings.Repeat("<br>", 40000) + "\x00"
	a, got := fragmentOf(t, s, "div", false)
	if a.Len() != maxNodes-63 || !slices.Equal(got.result.Errors, words("full")) {
		t.Errorf("%d nodes, %q", a.Len(), got.result.Errors)
	}
	same(t, "full", got, plainFragment(s, "div", false))
}

// P18.2: random fragments, held against a plain reading.
func TestRandomFragments(t *testing.T) {
	r := rand.New(rand.NewSource(1802))
	for range 2000 {
		s, scripts := randomPage(r), r.Intn(2) == 0
		name := pick(r, "div", "body", "html", "head", "table", "tr", "td", "select", "template", "title", "script", "noscript", "plaintext", "form", "frameset", "colgroup", "svg")
		_, got := fragmentOf(t, s, name, scripts)
		same(t, strconv.Quote(s)+" in "+name, got, plainFragment(s, name, scripts))
	}
}
