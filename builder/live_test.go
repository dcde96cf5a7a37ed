package builder_test

import (
	"strings"
	"testing"

	"hornbeam/api"
	"hornbeam/builder"
)

// topmost is the current node.
func (w bench) topmost() int {
	w.t.Helper()
	open := w.b.Open()
	return open[len(open)-1]
}

// P5: what comes goes into the elements that are open, wherever a script has put them.
func TestElementsThatWereMoved(t *testing.T) {
	w := newBench(t)
	w.feed("<!DOCTYPE html><body><div><p>a")
	open := w.b.Open()
	body, div, p := open[1], open[2], open[3]
	gives(t, "Unlink", w.a.Unlink(p), ok)
	w.feed("b<b>c")
	gives(t, "Link", w.a.Link(body, p, div), ok)
	w.feed("d</b>e</p>f")
	w.tree(`<!html> html(head body(p("ab" b("cd") "e") div("f")))`)
	gives(t, "Unlink", w.a.Unlink(body), ok)
	w.feed("g</div><!--x--></body><!--y-->")
	w.tree("<!html> html(head <!--y-->)")
	if got := w.tell(body); got != `p("ab" b("cd") "e") div("fg") <!--x-->` {
		t.Errorf("body has %s", got)
	}
	gives(t, "Unlink", w.a.Unlink(open[0]), ok)
	w.feed("</html><!--z-->")
	w.feedEnd()
	w.tree("<!html> <!--z-->")
	w.has(0)
}

// P5: a text that a script has changed, taken away, or put something behind.
func TestTextsThatWereChanged(t *testing.T) {
	w := newBench(t)
	w.feed("<!DOCTYPE html><p>ab")
	p, text := w.topmost(), w.a.Len()-1
	gives(t, "SetData", w.a.SetData(text, "x"), ok)
	w.feed("c")
	gives(t, "SetData", w.a.SetData(text, "yz"), ok)
	w.feed("d")
	gives(t, "SetData", w.a.SetData(text, "zyd"), ok)
	w.feed("e")
	w.tree(`<!html> html(head body(p("zyde")))`)
	gives(t, "Unlink", w.a.Unlink(text), ok)
	w.feed("fg")
	w.tree(`<!html> html(head body(p("fg")))`)
	gives(t, "Link", w.a.Link(p, text, none), ok)
	w.feed("hi")
	w.tree(`<!html> html(head body(p("fg" "zydehi")))`)
	id, e := w.a.Comment("x")
	gives(t, "Comment", e, ok)
	gives(t, "Link", w.a.Link(p, id, none), ok)
	w.feed("jk")
	w.tree(`<!html> html(head body(p("fg" "zydehi" <!--x--> "jk")))`)
}

// P5: texts by turns, each of which goes on where it stopped.
func TestTextsByTurns(t *testing.T) {
	w := newBench(t)
	w.feed("<!DOCTYPE html><table>")
	for range 3 {
		w.feed("ab<tr><td>c</td>de")
	}
	w.feed("</table>fg")
	w.tree(`<!html> html(head body("abdeabdeabde" table(tbody(tr(td("c")) tr(td("c")) tr(td("c")))) "fg"))`)
}

// P16.2: foster parents, where a script has moved the table.
func TestTablesThatWereMoved(t *testing.T) {
	w := newBench(t)
	w.feed("<!DOCTYPE html><body><div><table>")
	open := w.b.Open()
	body, table := open[1], open[3]
	gives(t, "Unlink", w.a.Unlink(table), ok)
	w.feed("a<p>b</p>")
	w.tree(`<!html> html(head body(div("a" p("b"))))`)
	gives(t, "Link", w.a.Link(body, table, none), ok)
	w.feed("c<p>d</p>")
	w.tree(`<!html> html(head body(div("a" p("b")) "c" p("d") table))`)
}

// P16.2: an HTML point is told by the attributes that the element has now.
func TestPointsThatWereChanged(t *testing.T) {
	w := newBench(t)
	w.feed("<!DOCTYPE html><math><annotation-xml>")
	gives(t, "SetAttr", w.a.SetAttr(w.topmost(), api.Attr{Name: "encoding", Value: "text/html"}), ok)
	w.feed("<x></x>")
	gives(t, "DelAttr", w.a.DelAttr(w.topmost(), 0, "encoding"), ok)
	w.feed("<x></x>")
	w.tree("<!html> html(head body(math:math(math:annotation-xml(x math:x))))")
}

// P16.2: merge adds what an element has not got now.
func TestMergeBehindAScript(t *testing.T) {
	w := newBench(t)
	w.feed("<!DOCTYPE html><html a=1 b=2><body>")
	root := w.b.Open()[0]
	gives(t, "DelAttr", w.a.DelAttr(root, 0, "a"), ok)
	gives(t, "SetAttr", w.a.SetAttr(root, api.Attr{Name: "c", Value: "3"}), ok)
	w.feed("<html a=4 b=5 c=6>")
	w.tree("<!html> html{b=2 c=3 a=4}(head body)")
}

// P15.1, P16.2: the agency, where a script has put an element below what is open in it.
func TestAgencyBehindAScript(t *testing.T) {
	w := newBench(t)
	w.feed("<!DOCTYPE html><body><b><p>a")
	open := w.b.Open()
	b, p := open[2], open[3]
	gives(t, "Unlink", w.a.Unlink(p), ok)
	gives(t, "Unlink", w.a.Unlink(b), ok)
	gives(t, "Link", w.a.Link(p, b, none), ok)
	w.feed("</b>c")
	w.tree(`<!html> html(head body(p(b("a" b) "c")))`)
	w.feedEnd()
	w.isOver()
}

// P16.2: a head that a script took away gets what comes late all the same.
func TestHeadThatWasTakenAway(t *testing.T) {
	w := newBench(t)
	w.feed("<!DOCTYPE html><head>")
	head := w.topmost()
	w.feed("</head>")
	gives(t, "Unlink", w.a.Unlink(head), ok)
	w.feed("<title>a</title><template><p></template><p>")
	w.tree("<!html> html(body(p))")
	if got := w.tell(head); got != `title("a") template[p]` {
		t.Errorf("the head has %s", got)
	}
	if w.opened() != "html body p" {
		t.Errorf("the stack is %s", w.opened())
	}
}

// P5, P16.2: a document that is opened anew: another builder over the same arena.
func TestAnotherBuilder(t *testing.T) {
	w := newBench(t)
	w.feed("<!DOCTYPE html><p>a")
	w.feedEnd()
	for _, id := range w.a.Kids(0) {
		gives(t, "Unlink", w.a.Unlink(id), ok)
	}
	again := newBench(t)
	b, e := builder.New(w.a, false)
	gives(t, "New", e, ok)
	again.a, again.b = w.a, b
	again.feed("<title>b</title>c")
	again.tree(`html(head(title("b")) body("c"))`)
}

// P16.2: tokens that no lexer makes: odd names, and fields that their kind does not use.
func TestOddTokens(t *testing.T) {
	w := newBench(t)
	w.take(api.Token{Kind: doctype, Name: "html", Data: "p", System: "s"})
	w.take(api.Token{Kind: start, Name: "body", Data: "x", System: "y", Has: 7, Quirks: true, Char: 'c'})
	w.take(opens(""), opens("P"), opens("TABLE"), opens("p "), char('a'), closes("P"), closes(""), closes("p "))
	w.take(opens("BODY"), opens("\xff"), closes("\xff"), opens("#text"), char(-5), char(0x110000), char(0xDFFF))
	w.tree(`<!html "p" "s"> html(head body((P(TABLE(p ("a")))) BODY(` + "\xff" + ` #text("` + strings.Repeat("\uFFFD", 3) + `"))))`)
	w.take(api.Token{Kind: end, Name: "body", Attrs: attrsOf([]string{"a", "1"}), Self: true}, api.Token{Kind: eof, Name: "p", Data: "x"})
	w.isOver()
}

// P16.2: names of elements are those of HTML: foreign ones of the same name count for nothing.
func TestNamesAreOfHTML(t *testing.T) {
	for _, c := range []struct {
		in, tree string
		errors   int
	}{
		{"<svg><desc><svg><x></svg><p>a</desc>", `svg:svg(svg:desc(svg:svg(svg:x) p("a")))`, 2},
		{"<svg><template><desc></template>a", `svg:svg(svg:template(svg:desc) "a")`, 1},
		{"<svg><form></form><desc><form>", "svg:svg(svg:form svg:desc(form))", 0},
		{"<math><mi><svg><mi></mi><desc></mi>a", `math:math(math:mi(svg:svg(svg:mi svg:desc)) "a")`, 1},
		{"<svg><select><desc></select>a", `svg:svg(svg:select(svg:desc) "a")`, 1},
		{"<svg><a><desc><a>b</a>c", `svg:svg(svg:a(svg:desc(a("b") "c")))`, 0},
		{"<svg><frameset><desc>a</frameset>", `svg:svg(svg:frameset(svg:desc("a")))`, 1},
		{"<svg><option><desc><option><option>", "svg:svg(svg:option(svg:desc(option option)))", 0},
	} {
		w := newBench(t)
		w.feed("<!DOCTYPE html><body>" + c.in)
		w.tree("<!html> html(head body(" + c.tree + "))")
		if got := w.b.Errors(); got != c.errors {
			t.Errorf("%s: %d errors; want %d", c.in, got, c.errors)
		}
	}
}
