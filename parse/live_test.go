package parse_test

import (
	"testing"

	"hornbeam/edit"
	"hornbeam/parse"
)

// P18.1: the tree in the middle of a page, as far as bytes have come.
func TestTreeInTheMiddle(t *testing.T) {
	p := parse.New("utf-8", false)
	a := p.Tree()
	for _, c := range []struct{ chunk, tree string }{
		{padding, ""},
		{"<!DOCTYPE html", ""},
		{">", "doctype:html"},
		{"<title>a", `doctype:html html(head(title("a")))`},
		{"\xc3", `doctype:html html(head(title("a")))`},
		{"\xa9\r", `doctype:html html(head(title("aé` + `\n")))`},
		{"\n</titl", `doctype:html html(head(title("aé` + `\n")))`},
		{"e><p", `doctype:html html(head(title("aé` + `\n")))`},
		{">b", `doctype:html html(head(title("aé` + `\n")) body(p("b")))`},
		{"&am", `doctype:html html(head(title("aé` + `\n")) body(p("b")))`},
		{"p", `doctype:html html(head(title("aé` + `\n")) body(p("b")))`},
		{";<table>c", `doctype:html html(head(title("aé` + `\n")) body(p("b&") table))`},
		{"<td>", `doctype:html html(head(title("aé` + `\n")) body(p("b&") "c" table(tbody(tr(td)))))`},
	} {
		feed(t, p, c.chunk)
		if got := tell(p.Tree(), 0); got != c.tree || p.Over() {
			t.Errorf("behind %q: %s; want %s", c.chunk, got, c.tree)
		}
		if p.Tree() != a {
			t.Errorf("behind %q: another arena", c.chunk)
		}
	}
	gives(t, "End", p.End(), ok)
	if p.Tree() != a || !p.Over() {
		t.Error("behind the end: another arena")
	}
}

// P18.1: the errors and the mode in the middle of a page.
func TestResultInTheMiddle(t *testing.T) {
	p := parse.New("l9", false)
	for _, c := range []struct {
		chunk  string
		mode   int
		errors string
	}{
		{padding, noQuirks, ""},
		{"<!--", noQuirks, ""},
		{">", noQuirks, "abrupt-closing-of-empty-comment"},
		{"<", noQuirks, "abrupt-closing-of-empty-comment"},
		{"p>", quirks, "abrupt-closing-of-empty-comment tree"},
		{"</b c", quirks, "abrupt-closing-of-empty-comment tree"},
		{">", quirks, "abrupt-closing-of-empty-comment tree end-tag-with-attributes tree"},
	} {
		feed(t, p, c.chunk)
		r := p.Result()
		if got := resultOf(r.Encoding, r.Mode, r.Errors...); short(got) != short(resultOf(latin9, c.mode, words(c.errors)...)) {
			t.Errorf("behind %q: %v", c.chunk, got)
		}
	}
}

// P18.1: the parser goes on with a tree that was changed in between.
func TestChangedTree(t *testing.T) {
	p := fed(t, "", false, doctype+padding+"<div id=x>a")
	a := p.Tree()
	div := firstNamed(t, p, "div")
	body := firstNamed(t, p, "body")
	gives(t, "Unlink", a.Unlink(div), ok)
	_, e := edit.AddText(a, "new", body)
	gives(t, "AddText", e, ok)
	feed(t, p, "b<i>c</div>d")
	gives(t, "End", p.End(), ok)
	if got, gone := tell(a, 0), tellOne(a, div); got != `doctype:html html(head body("new" i("d")))` || gone != `div{id=x}("ab" i("c"))` {
		t.Errorf("%s, %s", got, gone)
	}
	if p.Tree() != a || !p.Over() {
		t.Error("another arena")
	}

	p = fed(t, "", false, doctype+padding+"<p>a")
	a = p.Tree()
	text := a.Kids(firstNamed(t, p, "p"))[0]
	gives(t, "SetData", a.SetData(text, "xyz"), ok)
	feed(t, p, "b")
	gives(t, "Unlink", a.Unlink(text), ok)
	feed(t, p, "c")
	gives(t, "Unlink", a.Unlink(firstNamed(t, p, "html")), ok)
	feed(t, p, "d<!--e--></body></html><!--f-->")
	gives(t, "End", p.End(), ok)
	x, _ := a.Node(text)
	if got := tell(a, 0); got != `doctype:html !"f"` || x.Data != "xyzb" {
		t.Errorf("%s, %q", got, x.Data)
	}
}

// P18.1: what is put into an arena ahead of the first byte stays there.
func TestTreeThatWasBegun(t *testing.T) {
	p := parse.New("", false)
	id, _ := p.Tree().Comment("first")
	gives(t, "Link", p.Tree().Link(0, id, none), ok)
	feed(t, p, "<p>a")
	gives(t, "End", p.End(), ok)
	if got := tell(p.Tree(), 0); got != `!"first" html(head body(p("a")))` {
		t.Error(got)
	}
}

func firstNamed(t *testing.T, p *parse.Parser, name string) int {
	t.Helper()
	for id, x := range nodesOf(p.Tree()) {
		if x.Kind == 1 && x.Name == name {
			return id
		}
	}
	t.Fatalf("there is no %s", name)
	return none
}
