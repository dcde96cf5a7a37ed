package write_test

import (
	"slices"
	"testing"

	"hornbeam/api"
	"hornbeam/write"
)

// P17.2

func TestInnerOfTheExample(t *testing.T) {
	checkWritten(t, document(elem("a", text("1<2")).with(api.Attr{Name: "href", Value: `x"y`})), `<a href="x&quot;y">1&lt;2</a>`)
}

func TestInnerOfNothing(t *testing.T) {
	for _, x := range []thing{document(), fragment(), elem("p"), elem("br"), elem("style"), template(nil), elem("svg").in(api.SVG),
		elem("p").with(api.Attr{Name: "a", Value: "b"})} {
		checkWritten(t, x, "")
	}
}

func TestInnerOfWhatHasNoChildren(t *testing.T) { // asked for themselves, alone and within a parent
	for _, x := range []thing{text("a<"), text(""), comment("a"), doctype("html", "p", "s")} {
		checkWritten(t, x, "")
		for _, name := range []string{"p", "style", "noscript"} {
			m := newMaker(t)
			id := m.Kids(m.make(elem(name, x)))[0]
			checkInner(t, m.Arena, id, false, "")
			checkInner(t, m.Arena, id, true, "")
		}
	}
}

func TestInnerOfEachKind(t *testing.T) {
	kids := []thing{doctype("html", "", ""), elem("p"), text("a"), comment("b"), elem("br"), template(nil), elem("g").in(api.SVG), elem("mi").in(api.MathML)}
	const want = `<!DOCTYPE html><p></p>a<!--b--><br><template></template><g></g><mi></mi>`
	for _, x := range []thing{document(kids...), fragment(kids...), elem("div", kids...), elem("g", kids...).in(api.SVG), elem("mi", kids...).in(api.MathML),
		template(kids), template(kids, kids...)} {
		checkWritten(t, x, want)
		if x.kind == api.KElement {
			checkWritten(t, document(x), "<"+x.name+">"+want+"</"+x.name+">")
		}
	}
}

func TestInnerOfEmptyTexts(t *testing.T) {
	checkWritten(t, document(elem("", text("")), text(""), comment(""), doctype("", "", ""), elem("p").with(api.Attr{})),
		`<></><!----><!DOCTYPE ><p =""></p>`)
}

func TestInnerOfDepths(t *testing.T) {
	checkWritten(t, document(elem("a", elem("b", elem("c"), text("d")), elem("e", text("f"))), comment("g")),
		`<a><b><c></c>d</b><e>f</e></a><!--g-->`)
}

func TestInnerOfWhatIsInAlone(t *testing.T) { // neither what is above id, nor its neighbours, nor its own tags
	m := newMaker(t)
	m.make(document(elem("html", text("ahead"), elem("p", elem("b", text("in"))).with(api.Attr{Name: "a"}), text("behind"))))
	checkInner(t, m.Arena, 1, false, `ahead<p a=""><b>in</b></p>behind`)
	checkInner(t, m.Arena, 3, false, `<b>in</b>`)
	checkInner(t, m.Arena, 4, false, `in`)
	m.Unlink(3)
	checkInner(t, m.Arena, 3, false, `<b>in</b>`)
	checkInner(t, m.Arena, 0, false, `<html>aheadbehind</html>`)
	m.link(1, 3, 2)
	checkInner(t, m.Arena, 0, false, `<html><p a=""><b>in</b></p>aheadbehind</html>`)
}

func TestInnerOfVoidElements(t *testing.T) {
	kids := []thing{text("x"), elem("b", text("y")), comment("z")}
	for _, name := range voids {
		checkWritten(t, elem(name, kids...), "")
		checkWritten(t, document(elem(name)), "<"+name+">")
		checkWritten(t, document(elem("p", elem(name, kids...), text("behind"))), "<p><"+name+">behind</p>")
		checkWritten(t, template([]thing{elem(name, elem(name, kids...)).with(api.Attr{Name: "a", Value: "&"})}), "<"+name+` a="&amp;">`)
		for _, space := range []int{api.MathML, api.SVG} {
			checkWritten(t, elem(name, kids...).in(space), "x<b>y</b><!--z-->")
			checkWritten(t, document(elem(name).in(space)), "<"+name+"></"+name+">")
			checkWritten(t, document(elem(name, kids...).in(space)), "<"+name+">x<b>y</b><!--z--></"+name+">")
		}
	}
}

func TestInnerOfOtherElements(t *testing.T) {
	for _, name := range slices.Concat(others, plain, []string{"noscript", "Br", "br "}) {
		if name != "template" {
			checkWritten(t, elem(name, comment("&"), elem("i")), "<!--&--><i></i>")
		}
		checkWritten(t, document(elem(name), elem("b")), "<"+name+"></"+name+"><b></b>")
	}
}

func TestInnerOfADoctypeNamedAsAVoidElement(t *testing.T) { // what is asked of an element's name is asked of no other kind's
	checkWritten(t, document(doctype("br", "", ""), doctype("style", "", ""), text("<")), "<!DOCTYPE br><!DOCTYPE style>&lt;")
}

func TestInnerOfTemplates(t *testing.T) {
	inner, kids := []thing{text("in<"), elem("b", text("deep"))}, []thing{text("kid"), elem("i")}
	checkWritten(t, template(inner, kids...), "in&lt;<b>deep</b>")
	checkWritten(t, template(nil, kids...), "")
	checkWritten(t, document(template(inner, kids...).with(api.Attr{Name: "x"}), text("next")), `<template x="">in&lt;<b>deep</b></template>next`)
	checkWritten(t, document(template(nil, kids...), text("next")), "<template></template>next")
	checkWritten(t, elem("p", template([]thing{template([]thing{text("a")}, text("b")), text("c")}, template(nil))),
		"<template><template>a</template>c</template>")
}

func TestInnerOfATemplatesContents(t *testing.T) {
	m := newMaker(t)
	id := m.make(template([]thing{text("in<"), elem("b")}, text("kid")))
	checkInner(t, m.Arena, id+1, false, "in&lt;<b></b>")
	checkInner(t, m.Arena, id, true, "in&lt;<b></b>")
	checkInner(t, m.Arena, 0, false, "")
}

func TestInnerOfTemplatesThatAreNoneOfHTML(t *testing.T) {
	for _, x := range []thing{elem("template").in(api.SVG), elem("template").in(api.MathML), elem("Template"), elem("TEMPLATE")} {
		x.kids = []thing{text("kid"), elem("i")}
		checkWritten(t, x, "kid<i></i>")
		checkWritten(t, document(x), "<"+x.name+">kid<i></i></"+x.name+">")
	}
}

// odd is a text with each sign that may be changed, and bytes that may not.
const odd = "\x00<b>&amp;\"'\u00a0\xc2\xa1\xa0\xff-->\r\n"

const oddEscaped = "\x00&lt;b&gt;&amp;amp;\"'&nbsp;\xc2\xa1\xa0\xff--&gt;\r\n"

const oddValue = "\x00<b>&amp;amp;&quot;'&nbsp;\xc2\xa1\xa0\xff-->\r\n"

func TestInnerOfTextsInPlainElements(t *testing.T) {
	for _, name := range plain {
		checkWritten(t, elem(name, text(odd)), odd)
		checkWritten(t, document(elem(name, text(odd), comment("c"), text("<"))), "<"+name+">"+odd+"<!--c--><</"+name+">")
		for _, space := range []int{api.MathML, api.SVG} {
			checkWritten(t, elem(name, text(odd)).in(space), oddEscaped)
			checkWritten(t, document(elem(name, text(odd)).in(space)), "<"+name+">"+oddEscaped+"</"+name+">")
		}
	}
}

func TestInnerOfNoscript(t *testing.T) {
	for _, space := range []int{api.HTML, api.MathML, api.SVG} {
		m := newMaker(t)
		id := m.make(elem("noscript", text(odd)).in(space))
		m.link(0, id, none)
		checkInner(t, m.Arena, id, false, oddEscaped)
		checkInner(t, m.Arena, 0, false, "<noscript>"+oddEscaped+"</noscript>")
		want := odd
		if space != api.HTML {
			want = oddEscaped
		}
		checkInner(t, m.Arena, id, true, want)
		checkInner(t, m.Arena, 0, true, "<noscript>"+want+"</noscript>")
	}
}

func TestInnerOfTextsInOtherElements(t *testing.T) {
	for _, name := range others {
		x := elem(name, text(odd))
		if name == "template" {
			x = template(x.kids)
		}
		checkWritten(t, x, oddEscaped)
		checkWritten(t, document(x), "<"+name+">"+oddEscaped+"</"+name+">")
	}
	checkWritten(t, document(text(odd)), oddEscaped)
	checkWritten(t, fragment(text(odd)), oddEscaped)
}

func TestInnerAsksATextsParentAlone(t *testing.T) { // not what is above that, nor what came ahead
	checkWritten(t, elem("style", text("<"), elem("b", text("<")), text("<")), "<<b>&lt;</b><")
	checkWritten(t, elem("b", text("<"), elem("style", text("<")), text("<")), "&lt;<style><</style>&lt;")
	checkWritten(t, elem("script", elem("xmp", text("<")), elem("svg", elem("style", text("<")).in(api.SVG)).in(api.SVG)),
		"<xmp><</xmp><svg><style>&lt;</style></svg>")
	checkWritten(t, elem("style", template([]thing{text("<")}, text("kid")), text("<")), "<template>&lt;</template><")
	checkWritten(t, template([]thing{elem("style", text("<")), text("<")}), "<style><</style>&lt;")
	checkWritten(t, elem("style", elem("br"), text("<")), "<br><")
}

func TestInnerOfCommentsAndDoctypes(t *testing.T) { // neither is escaped, a doctype has its name alone
	for _, name := range []string{"p", "style", "svg"} {
		checkWritten(t, elem(name, comment(odd), doctype(odd, "", ""), doctype("html", "public", "system"), comment("-")),
			"<!--"+odd+"--><!DOCTYPE "+odd+"><!DOCTYPE html><!----->")
	}
}

func TestInnerPutsNoLineEnds(t *testing.T) {
	for _, name := range []string{"pre", "textarea", "listing"} {
		checkWritten(t, document(elem(name, text("\na"))), "<"+name+">\na</"+name+">")
		checkWritten(t, document(elem(name, text("a"))), "<"+name+">a</"+name+">")
	}
}

func TestInnerOfNamesKeepsBytes(t *testing.T) {
	checkWritten(t, document(elem(odd, text("x")).with(api.Attr{Name: odd, Value: odd})), "<"+odd+" "+odd+`="`+oddValue+`">x</`+odd+">")
}

func TestInnerOfNoNode(t *testing.T) {
	m := newMaker(t)
	m.make(document(elem("p", text("a"))))
	before := all(m.Arena)
	for _, id := range append(outside, m.Len()) {
		for _, scripts := range []bool{false, true} {
			if s, e := write.Inner(m.Arena, id, scripts); s != "" || e != api.ErrNone {
				t.Errorf("Inner(%d, %v): %q, %d", id, scripts, s, e)
			}
		}
	}
	checkUnchanged(t, m.Arena, before)
	checkInner(t, m.Arena, m.Len()-1, false, "")
}

func TestInnerChangesNothing(t *testing.T) {
	m := newMaker(t)
	m.make(document(elem("p", template([]thing{text("&")}, text("b")), elem("br", text("c"))).with(api.Attr{Name: "b"}, api.Attr{Name: "a"})))
	before := all(m.Arena)
	for range 2 {
		checkInner(t, m.Arena, 0, false, `<p b="" a=""><template>&amp;</template><br></p>`)
		checkInner(t, m.Arena, 0, true, `<p b="" a=""><template>&amp;</template><br></p>`)
	}
	checkUnchanged(t, m.Arena, before)
}

func TestInnerStaysBehindChanges(t *testing.T) { // P4, P5
	m := newMaker(t)
	m.make(document(elem("p", text("&")).with(api.Attr{Name: "a", Value: "1"})))
	was, _ := write.Inner(m.Arena, 0, false)
	copied := m.Copy()
	m.SetData(2, "other")
	m.SetAttr(1, api.Attr{Name: "a", Value: "2"})
	m.link(1, m.one(elem("hr")), 2)
	if was != `<p a="1">&amp;</p>` {
		t.Errorf("an answer changed: %q", was)
	}
	checkInner(t, m.Arena, 0, false, `<p a="2"><hr>other</p>`)
	checkInner(t, copied, 0, false, was)
	m.DelAttr(1, api.HTML, "a")
	m.Unlink(2)
	checkInner(t, m.Arena, 0, false, "<p><hr></p>")
}
