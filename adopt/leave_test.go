package adopt_test

import (
	"strings"
	"testing"

	"hornbeam/api"
)

// P15.1, step 1: the top has the name and no entry: it alone goes, with whatever else is in the list.
func TestTopWithoutAnEntry(t *testing.T) {
	for _, name := range []string{"b", "p", "span", "table", "x"} {
		b := newBench(t)
		b.open("html body i* " + name)
		b.text("x")
		b.closes(name, 0)
		b.tree(`html(body(i(` + name + `("x"))))`)
		b.opened("html body i")
		b.entered("i")
	}
}

// P15.1, step 1: others of the name that have an entry stay.
func TestTopWithoutAnEntryAmongOthers(t *testing.T) {
	b := newBench(t)
	b.open("html body b1* p b2* div b3")
	b.closes("b", 0)
	b.opened("html body b1 p b2 div")
	b.entered("b1 b2")
	b.tree("html(body(b1(p(b2(div(b3))))))")
}

// P15.1, step 1: an entry ahead of a marker is one.
func TestTopWithAnEntryAheadOfAMarker(t *testing.T) {
	b := newBench(t)
	b.open("html body b* |")
	was := b.state()
	b.runs("b", false, true, 0, ok)
	b.unchanged("an entry ahead of a marker", was)
}

// P15.1, step 1: a top of another namespace has not the name.
func TestTopOfAnotherNamespace(t *testing.T) {
	for _, top := range []string{"svg:b", "math:b", "svg:b*", "math:b*"} {
		b := newBench(t)
		b.open("html body " + top)
		was := b.state()
		b.runs("b", false, true, 0, ok)
		b.unchanged(top, was)
		b = newBench(t)
		b.open("html body b* " + top)
		b.closes("b", 1)
		b.opened("html body")
		b.entered(strings.Trim(strings.Repeat(top, strings.Count(top, "*")), "*"))
		b.tree("html(body(b(" + strings.Trim(top, "*") + ")))")
	}
}

// P15.1, step 1: the top's name is asked for alone, and as it is.
func TestTopOfAnotherName(t *testing.T) {
	b := newBench(t)
	b.open("html body b i")
	was := b.state()
	for _, name := range []string{"b", "I", "ii", "", "body", "html", " i", "i ", "nobr"} {
		b.runs(name, false, true, 0, ok)
		b.runs(name, true, true, 0, ok)
	}
	b.unchanged("other names", was)
}

// P15.1, step 1: the top is the only element of the stack.
func TestTopIsTheFirst(t *testing.T) {
	b := newBench(t)
	b.open("b")
	b.closes("b", 0)
	b.opened("")
	b.tree("b")
}

// P15.1, step 2.1: no entry of the name, or none behind the last marker: another one.
func TestAnotherOne(t *testing.T) {
	for _, words := range []string{
		"html body p",
		"html body b",
		"html body i* u*",
		"html body b* | p",
		"html body b* b2* | i* p",
		"html b* | body i* | u*",
		"html svg:b* math:b* p",
		"",
		"|",
		"| |",
	} {
		b := newBench(t)
		b.open(words)
		was := b.state()
		name := "b"
		if strings.HasSuffix(words, "b") {
			name = "i"
		}
		b.runs(name, false, true, 0, ok)
		b.runs(name, true, true, 0, ok)
		b.unchanged(words, was)
	}
}

// P15.1, step 2.1: of several entries of the name it is the last one.
func TestLastOfTheName(t *testing.T) {
	b := newBench(t)
	b.open("html body b1* b2* i* b3*")
	b.closes("b", 0)
	b.opened("html body b1 b2 i")
	b.entered("b1 b2 i")
	b.closes("b", 1)
	b.opened("html body b1")
	b.entered("b1 i")
	b.closes("b", 0)
	b.opened("html body")
	b.entered("i")
	b.runs("b", false, true, 0, ok)
}

// P15.1, step 2.1: the last of the list, not the one nearest to the top.
func TestLastOfTheNameInTheList(t *testing.T) {
	b := newBench(t)
	ids := b.open("html body b1 b2")
	b.enter(ids[3], tag("b2"))
	b.enter(ids[2], tag("b1"))
	b.closes("b", 1)
	b.opened("html body")
	b.entered("b2")
	b.closes("b", 1)
	b.entered("")
}

// P15.1, step 2.2: F is not in the stack: an error, its entry goes, and that is all.
func TestNotOpen(t *testing.T) {
	b := newBench(t)
	ids := b.open("html body b1* b2* i* p")
	gives(t, "Remove", b.s.Remove(ids[3]), ok)
	was := b.state()
	b.closes("b", 1)
	b.entered("b1 i")
	b.opened("html body b1 i p")
	was.list = append(was.list[:1:1], was.list[2:]...)
	b.unchanged("not open", was)
	b.s.Remove(ids[2])
	b.closes("b", 1)
	b.entered("i")
	b.runs("b", false, true, 0, ok)
}

// P15.1, step 2.2: the same where nothing is open.
func TestNothingOpen(t *testing.T) {
	b := newBench(t)
	b.enter(b.elem("b1"), tag("b1"))
	b.enter(b.elem("b2"), tag("b2"))
	b.closes("b", 1)
	b.entered("b1")
	b.runs("b", true, false, 1, ok)
	b.entered("")
	b.opened("")
	b.runs("b", false, true, 0, ok)
}

// P15.1, step 2.2: a border of the scope above F: an error, and nothing is done.
func TestNotInTheScope(t *testing.T) {
	for _, border := range []string{
		"applet", "caption", "html2", "table", "td", "th", "marquee", "object", "template",
		"math:mi", "math:mo", "math:mn", "math:ms", "math:mtext", "math:annotation-xml",
		"svg:foreignObject", "svg:desc", "svg:title",
	} {
		for _, words := range []string{"html body b* " + border, "b* i* " + border + " p i2*", "body b1* b* p " + border} {
			b := newBench(t)
			b.open(words)
			b.text("x")
			was := b.state()
			b.closes("b", 1)
			b.runs("b", true, false, 1, ok)
			b.unchanged(words, was)
		}
	}
}

// P15.1, step 2.2: borders of the wider scopes alone, and borders below F, are none.
func TestInTheScope(t *testing.T) {
	for _, between := range []string{"ol", "ul", "button", "select"} {
		b := newBench(t)
		b.open("html table td b* " + between)
		b.closes("b", 1)
		b.tree("html(table(td(b " + between + "(b'))))")
		b.opened("html table td " + between)
		b.entered("")
	}
	for _, between := range []string{"svg:table", "math:td", "svg:template", "mi", "foreignObject", "svg:mi", "math:desc"} {
		b := newBench(t)
		b.open("html body b* " + between)
		b.closes("b", 1)
		b.opened("html body")
		b.entered("")
	}
}

// P15.1, step 2.2: F itself is a border and is special: it is in the scope all the same, and no B.
func TestFIsABorder(t *testing.T) {
	for _, name := range []string{"table", "template", "td", "p", "html"} {
		b := newBench(t)
		b.open("body " + name + "*")
		b.closes(name, 0)
		b.opened("body")
		b.entered("")
	}
	b := newBench(t)
	b.open("body td* i span")
	b.closes("td", 1)
	b.opened("body")
	b.entered("")
}

// P15.1, step 2.3: with nothing between F and the top F is popped without an error.
func TestFIsTheTop(t *testing.T) {
	b := newBench(t)
	b.open("html body p b* i*")
	b.text("x")
	b.closes("i", 0)
	b.opened("html body p b")
	b.entered("b")
	b.closes("b", 0)
	b.opened("html body p")
	b.entered("")
	b.tree(`html(body(p(b(i("x")))))`)
}

// P15.1, step 2.3: with none special above F all go, the others' entries stay.
func TestNoneSpecial(t *testing.T) {
	b := newBench(t)
	b.open("html body u* b* i* span x svg:p svg:svg em*")
	b.text("x")
	b.closes("b", 1)
	b.opened("html body u")
	b.entered("u i em")
	b.tree(`html(body(u(b(i(span(x(svg:p(svg:svg(em("x")))))))))` + ")")
}

// P15.1, step 2.3: special ones below F don't count.
func TestSpecialBelowF(t *testing.T) {
	b := newBench(t)
	b.open("html body p div b* i* span")
	b.closes("b", 1)
	b.opened("html body p div")
	b.entered("i")
	b.tree("html(body(p(div(b(i(span))))))")
}

// P15.1, step 2.3: F is the first of the stack.
func TestAllGo(t *testing.T) {
	b := newBench(t)
	b.open("b* i* u span")
	b.closes("b", 1)
	b.opened("")
	b.entered("i")
	b.tree("b(i(u(span)))")
}

// P15.1: a name that is empty is as any other.
func TestEmptyName(t *testing.T) {
	b := newBench(t)
	b.open("html body b* p")
	was := b.state()
	b.runs("", false, true, 0, ok)
	b.unchanged("an empty name", was)
	id := b.got(b.a.Element(html, "", nil))
	b.push(id)
	b.closes("", 0)
	b.opened("html body b p")
	b.push(id)
	b.enter(id, api.Token{})
	div := b.child(id, "div")
	b.push(div)
	b.closes("", 1)
	b.opened("html body b p div")
	b.entered("b")
	if x := b.node(b.node(div).First); x.Kind != api.KElement || x.Name != "" || len(x.Attrs) != 0 || x.First != none {
		t.Errorf("in the div: %v", x)
	}
}
