package class_test

import (
	"slices"
	"strings"
	"testing"

	"hornbeam/api"
	"hornbeam/class"
	"hornbeam/node"
)

// P19.1: what may stand where.

func TestExamples(t *testing.T) {
	x := page(elem("p", text("a")))
	checkClass(t, "the example", x, true)
	if s, e := class.Text(arenaOf(t, x)); s != "<head></head><body><p>a</p></body>" || e != ok {
		t.Errorf("Text: %q, %d", s, e)
	}
	checkClass(t, "with ul", page(elem("ul")), false)
}

func TestEachElement(t *testing.T) {
	for _, name := range append([]string{"p", "span"}, holders...) {
		for _, x := range []thing{
			elem(name),
			elem(name, text("a")),
			elem(name, comment("a")),
			elem(name).with("id", "a"),
			elem(name, text("a"), comment(""), text("b"), elem("span", text("c")), text("d")).with("id", "a", "a", "", "z-9", "<&>\u00a0\""),
		} {
			checkClass(t, name, page(x), true)
			checkClass(t, name+" twice", page(x, x), true)
			checkClass(t, name+" and more", page(text("1"), x, text("2"), x, comment("3"), text("4")), true)
		}
	}
}

// nests tells what each element may have, by the chapter's words.
func nests(parent, kid string) bool {
	inline := []string{"#text", "#comment", "span"}
	switch parent {
	case "#document":
		return kid == "html"
	case "html":
		return false // it has its two already
	case "head":
		return kid == "title"
	case "title":
		return kid == "#text"
	case "p", "span":
		return slices.Contains(inline, kid)
	}
	return slices.Contains(inline, kid) || kid == "p" || slices.Contains(holders, kid)
}

// docWith is a document in which an element named parent has a further child.
func docWith(parent string, kid thing) thing {
	switch parent {
	case "#document":
		return document(kid)
	case "html":
		return document(elem("html", elem("head"), elem("body"), kid))
	case "head":
		return headed(kid)
	case "title":
		return headed(elem("title", kid))
	case "body":
		return page(kid)
	}
	return page(elem(parent, kid))
}

func TestEachParentWithEachChild(t *testing.T) {
	kids := append(strings.Fields("#text #comment #doctype html head title body p span ul ol li a b i em h1 pre header footer nav address "+
		"template script style noscript textarea select option table tr td form button br img input hr svg math frameset meta base "+
		"mai mains spam spans divs di DIV Div SPAN P Body"), holders...)
	for _, parent := range append(strings.Fields("#document html head title body p span"), holders...) {
		for _, name := range kids {
			kid := elem(name)
			switch name {
			case "#text":
				kid = text("a")
			case "#comment":
				kid = comment("a")
			case "#doctype":
				kid = doctype("html")
			case "html":
				kid = elem(name, elem("head"), elem("body"))
			}
			checkClass(t, parent+" with "+name, docWith(parent, kid), nests(parent, name))
			if kid.kind == api.KElement {
				checkClass(t, parent+" with MathML "+name, docWith(parent, kid.in(mathML)), false)
				checkClass(t, parent+" with SVG "+name, docWith(parent, kid.in(svg)), false)
				checkClass(t, parent+" with blank "+name, docWith(parent, elem(name+" ")), false)
			}
		}
	}
}

func TestNestedElements(t *testing.T) {
	for _, a := range holders {
		for _, b := range holders {
			for _, c := range append([]string{"p", "span"}, holders...) {
				checkClass(t, a+b+c, page(within(text("x"), a, b, c), text("y")), true)
				checkClass(t, a+"p"+c, page(within(text("x"), a, "p", c)), c == "span")
				checkClass(t, a+"span"+c, page(within(text("x"), a, "span", c)), c == "span")
			}
		}
	}
	checkClass(t, "p in a span", page(within(text("x"), "span", "p")), false)
	checkClass(t, "a span in spans in a p", page(within(text("x"), "p", "span", "span", "span")), true)
	checkClass(t, "a body deep below", page(within(text("x"), "div", "span", "body")), false)
}

func TestTextsBehindTexts(t *testing.T) {
	for _, parent := range append([]string{"p", "span", "body"}, holders...) {
		of := func(kids ...thing) thing {
			if parent == "body" {
				return page(kids...)
			}
			return page(elem(parent, kids...))
		}
		a, b, c := text("a"), comment("b"), text(" ")
		checkClass(t, parent+": one behind another", of(a, c), false)
		checkClass(t, parent+": one behind another, at the end", of(b, elem("span"), a, a), false)
		checkClass(t, parent+": one behind another, in the midst", of(a, b, c, a, b), false)
		checkClass(t, parent+": with a comment between", of(a, b, c, b, a), true)
		checkClass(t, parent+": with elements between", of(a, elem("span"), c, elem("span", a), a), true)
		checkClass(t, parent+": with an empty one between", of(a, text(""), a), false)
		checkClass(t, parent+": ahead of an empty one", of(a, text("")), false)
		checkClass(t, parent+": comments behind comments", of(b, b, comment("")), true)
	}
	checkClass(t, "in unlike parents", page(text("a"), elem("span", text("b"), elem("span", text("c")), text("d")), text("e"), elem("p", text("f")), elem("p", text("g"))), true)
}

func TestTitles(t *testing.T) {
	for _, c := range []struct {
		what string
		x    thing
		want bool
	}{
		{"no text", elem("title"), true},
		{"a text", elem("title", text("a")), true},
		{"a line end", elem("title", text("\n")), true},
		{"signs", elem("title", text("</title><!--&amp;--> &lt; \u00a0\"'")), true},
		{"an empty text", elem("title", text("")), false},
		{"two texts", elem("title", text("a"), text("b")), false},
		{"a text with 0", elem("title", text("a\x00")), false},
		{"a text with 13", elem("title", text("a\r")), false},
		{"a text that is no UTF-8", elem("title", text("a\xff")), false},
		{"a comment", elem("title", comment("a")), false},
		{"a text and a comment", elem("title", text("a"), comment("b")), false},
		{"an element", elem("title", elem("span")), false},
		{"a text and an element", elem("title", text("a"), elem("span")), false},
		{"a text and an attribute", elem("title", text("a")).with("a", "b"), false},
		{"an attribute", elem("title").with("a", ""), false},
		{"SVG", elem("title", text("a")).in(svg), false},
	} {
		checkClass(t, "a title: "+c.what, headed(c.x), c.want)
		checkClass(t, "a title in body: "+c.what, page(c.x), false)
	}
}

func TestHeads(t *testing.T) {
	title, body := elem("title", text("a")), elem("body")
	of := func(head thing) thing { return document(elem("html", head, body)) }
	checkClass(t, "empty", of(elem("head")), true)
	checkClass(t, "a title", of(elem("head", title)), true)
	checkClass(t, "an attribute", of(elem("head").with("a", "b")), false)
	checkClass(t, "a title and an attribute", of(elem("head", title).with("a", "")), false)
	checkClass(t, "two titles", of(elem("head", title, title)), false)
	checkClass(t, "a blank", of(elem("head", text(" "))), false)
	for _, x := range []thing{text("\n"), text(""), comment("c"), elem("meta"), elem("span"), elem("title"), doctype("html")} {
		checkClass(t, "a title, and another child behind", of(elem("head", title, x)), false)
		checkClass(t, "a title, and another child ahead", of(elem("head", x, title)), false)
	}
}

func TestChildrenOfHTML(t *testing.T) {
	head, body := elem("head"), elem("body")
	for _, c := range []struct {
		what string
		kids []thing
	}{
		{"none", nil},
		{"a head", []thing{head}},
		{"a body", []thing{body}},
		{"a body ahead of a head", []thing{body, head}},
		{"two heads", []thing{head, head}},
		{"two heads and a body", []thing{head, head, body}},
		{"two bodies", []thing{body, body}},
		{"a head and two bodies", []thing{head, body, body}},
		{"a body twice", []thing{head, body, head, body}},
		{"a frameset", []thing{head, elem("frameset")}},
		{"a frameset too", []thing{head, body, elem("frameset")}},
		{"a div", []thing{head, elem("div")}},
		{"a div too", []thing{head, body, elem("div")}},
		{"a blank ahead", []thing{text(" "), head, body}},
		{"a blank between", []thing{head, text(" "), body}},
		{"a blank behind", []thing{head, body, text(" ")}},
		{"a comment ahead", []thing{comment("c"), head, body}},
		{"a comment between", []thing{head, comment("c"), body}},
		{"a comment behind", []thing{head, body, comment("c")}},
		{"a head of SVG", []thing{head.in(svg), body}},
		{"a body of MathML", []thing{head, body.in(mathML)}},
	} {
		checkClass(t, c.what, document(elem("html", c.kids...)), false)
	}
	checkClass(t, "an attribute", document(elem("html", head, body).with("lang", "a")), false)
	checkClass(t, "an attribute of a namespace", document(elem("html", head, body).and(api.Attr{Space: 5, Name: "xmlns"})), false)
	checkClass(t, "attributes of body", document(elem("html", head, body.with("lang", "a", "class", "b"))), true)
	checkClass(t, "an attribute of body that is not plain", document(elem("html", head, body.with("onload", "a", "A", "b"))), false)
}

func TestBesideHTML(t *testing.T) {
	top := elem("html", elem("head"), elem("body"))
	checkClass(t, "html alone", document(top), true)
	checkClass(t, "nothing", document(), false)
	checkClass(t, "html twice", document(top, top), false)
	checkClass(t, "html of SVG", document(top.in(svg)), false)
	checkClass(t, "html of MathML", document(top.in(mathML)), false)
	checkClass(t, "a body alone", document(elem("body")), false)
	checkClass(t, "a div", document(elem("div", top)), false)
	for _, x := range []thing{doctype("html"), doctype(""), comment("c"), comment(""), text("a"), text(" "), text(""), elem("p")} {
		checkClass(t, "a thing ahead", document(x, top), false)
		checkClass(t, "a thing behind", document(top, x), false)
		checkClass(t, "a thing alone", document(x), false)
	}
}

// An element with contents of its own is a template, which no page of the class has; a template of SVG has none.
func TestContents(t *testing.T) {
	for _, parent := range append(strings.Fields("#document html head title body p span"), holders...) {
		m := newMaker(t)
		m.make(docWith(parent, elem("template")))
		for id := range m.Len() {
			if x, _ := m.Node(id); x.Inner != none {
				m.link(x.Inner, m.one(text("a")), none)
			}
		}
		if s, e := class.Text(m.Arena); class.In(m.Arena) || s != "" || e != errForm {
			t.Errorf("%s: %q, %d", parent, s, e)
		}
		checkClass(t, parent, docWith(parent, elem("template").in(svg)), false)
	}
}

// A fragment, and what is below it, is beside the document: neither makes a difference.
func TestNodesThatAreNotBelowTheDocument(t *testing.T) {
	m := newMaker(t)
	x := page(elem("p", text("a")), elem("div"))
	m.make(x)
	f := m.got(m.Fragment())
	m.link(f, m.make(elem("ul", text(""))), none)
	m.make(within(text("a"), "b", "i"))
	m.make(elem("template"))
	checkAnswers(t, "with others beside", m.Arena, x, true)
	m.Unlink(3)
	if class.In(m.Arena) {
		t.Error("without its body it is in the class")
	}
	m.link(1, 3, none)
	checkAnswers(t, "with its body again", m.Arena, x, true)
	m.Unlink(1)
	if class.In(m.Arena) {
		t.Error("without its html it is in the class")
	}
}

// chain is a page in which the last of the things is n deep; body is 2 deep.
func chain(n int, last thing, name string) thing {
	for range n - 3 {
		last = elem(name, last)
	}
	return page(last)
}

func TestDepths(t *testing.T) {
	for _, name := range []string{"div", "span", "main"} {
		for _, last := range []thing{text("a"), comment(""), elem("span"), elem(name).with("id", "a")} {
			for _, n := range []int{3, 4, 100, 199, 200, 201, 202, 500} {
				checkClass(t, name, chain(n, last, name), n <= 200)
			}
		}
	}
	checkClass(t, "a p at the end", chain(199, elem("p", text("a")), "div"), true)
	checkClass(t, "a p whose text is too deep", chain(200, elem("p", text("a")), "div"), false)
	checkClass(t, "a p whose text would be too deep", chain(200, elem("p"), "div"), true)
	deep := chain(200, comment("c"), "div").kids[0].kids[1].kids[0]
	more := chain(201, comment("c"), "div").kids[0].kids[1].kids[0]
	wide := slices.Repeat([]thing{elem("p", text("a"))}, 20)
	checkClass(t, "deep ones in a wide page", page(slices.Concat(wide, []thing{deep}, wide, []thing{deep})...), true)
	checkClass(t, "a deeper one at the beginning", page(slices.Concat([]thing{more}, wide)...), false)
	checkClass(t, "a deeper one in the midst", page(slices.Concat(wide, []thing{deep, more}, wide)...), false)
	checkClass(t, "a deeper one at the end", page(slices.Concat(wide, []thing{more})...), false)
}

// As deep as an arena has room: the answer comes all the same.
func TestTheDeepestTree(t *testing.T) {
	for _, name := range []string{"div", "span", "html"} {
		m := newMaker(t)
		m.make(page())
		up := 3
		for m.Len() < maxNodes {
			id := m.one(elem(name))
			m.link(up, id, none)
			up = id
		}
		if s, e := class.Text(m.Arena); class.In(m.Arena) || s != "" || e != errForm {
			t.Errorf("%s: %q, %d", name, short(s), e)
		}
	}
}

// One fault anywhere is found.
func TestOneFault(t *testing.T) {
	span := elem("span", text("a"), comment("b"), elem("span", text("c"))).with("id", "d")
	x := document(elem("html", elem("head", elem("title", text("t"))), elem("body", text("e"),
		elem("div", elem("p", span, text("f")), elem("section", elem("main"), elem("article", text("g"), elem("aside", elem("p"))))), span, text("h")).with("id", "i")))
	checkClass(t, "without a fault", x, true)
	a := arenaOf(t, x)
	for id := range a.Len() {
		n, _ := a.Node(id)
		for what, fault := range map[string]func(b *node.Arena) api.Errno{
			"an element behind":     func(b *node.Arena) api.Errno { e, _ := b.Element(0, "b", nil); return b.Link(id, e, none) },
			"an element ahead":      func(b *node.Arena) api.Errno { e, _ := b.Element(0, "b", nil); return b.Link(id, e, n.First) },
			"an empty text":         func(b *node.Arena) api.Errno { e, _ := b.Text(""); return b.Link(id, e, n.First) },
			"a comment --":          func(b *node.Arena) api.Errno { e, _ := b.Comment("--"); return b.Link(id, e, none) },
			"an attribute A":        func(b *node.Arena) api.Errno { return b.SetAttr(id, api.Attr{Name: "A"}) },
			"an attribute of XLink": func(b *node.Arena) api.Errno { return b.SetAttr(id, api.Attr{Space: 3, Name: "id"}) },
			"data with 0":           func(b *node.Arena) api.Errno { return b.SetData(id, "a\x00") },
		} {
			b := a.Copy()
			if e := fault(b); e != ok {
				continue // not of this kind of node
			}
			if class.In(b) {
				t.Errorf("node %d, %s: in the class", id, what)
			}
		}
	}
}
