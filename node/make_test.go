package node_test

import (
	"testing"

	"hornbeam/api"
	"hornbeam/node"
)

// P1.1

func TestNewHasTheDocumentAlone(t *testing.T) {
	a := node.New()
	if a == nil || a.Len() != 1 {
		t.Fatal("New")
	}
	checkNode(t, a, 0, unlinked(api.KDocument))
	checkKids(t, a, 0)
}

func TestNewArenasAreApart(t *testing.T) {
	a, b := node.New(), node.New()
	a.Text("x")
	if a.Len() != 2 || b.Len() != 1 {
		t.Errorf("Len: %d, %d", a.Len(), b.Len())
	}
}

func TestNumbersRiseInOrder(t *testing.T) {
	m := newMaker(t)
	for i, make := range []func() (int, api.Errno){
		func() (int, api.Errno) { return m.Element(api.HTML, "p", nil) },
		func() (int, api.Errno) { return m.Text("t") },
		func() (int, api.Errno) { return m.Comment("c") },
		func() (int, api.Errno) { return m.Doctype("html", "p", "s") },
		func() (int, api.Errno) { return m.Fragment() },
		func() (int, api.Errno) { return m.Element(api.SVG, "g", nil) },
	} {
		id, e := make()
		if id != i+1 || e != api.OK || m.Len() != i+2 {
			t.Errorf("node %d: %d, %d; Len %d", i+1, id, e, m.Len())
		}
	}
}

func TestEachKindTellsItsFields(t *testing.T) {
	m := newMaker(t)
	attrs := []api.Attr{{Space: api.XLink, Prefix: "xlink", Name: "href", Value: "v"}}
	m.Element(api.MathML, "mi", attrs)
	m.Text("t")
	m.Comment("c")
	m.Doctype("html", "public", "system")
	m.Fragment()
	m.Element(api.SVG, "", nil)

	mi := unlinked(api.KElement)
	mi.Space, mi.Name, mi.Attrs = api.MathML, "mi", attrs
	text := unlinked(api.KText)
	text.Data = "t"
	comment := unlinked(api.KComment)
	comment.Data = "c"
	doctype := unlinked(api.KDoctype)
	doctype.Name, doctype.Data, doctype.System = "html", "public", "system"
	noname := unlinked(api.KElement)
	noname.Space = api.SVG
	for i, want := range []api.Node{unlinked(api.KDocument), mi, text, comment, doctype, unlinked(api.KFragment), noname} {
		checkNode(t, m.Arena, i, want)
	}
}

func TestTextsStayAsTheyAre(t *testing.T) {
	m := newMaker(t)
	odd := "\x00\xff\r\n<&\u00e9"
	text, comment := unlinked(api.KText), unlinked(api.KComment)
	text.Data, comment.Data = odd, odd
	checkNode(t, m.Arena, m.text(odd), text)
	checkNode(t, m.Arena, m.got(m.Comment(odd)), comment)
	doctype := unlinked(api.KDoctype)
	doctype.Name, doctype.Data, doctype.System = odd, odd+"p", odd+"s"
	checkNode(t, m.Arena, m.got(m.Doctype(odd, odd+"p", odd+"s")), doctype)
	elem := unlinked(api.KElement)
	elem.Name = odd
	checkNode(t, m.Arena, m.elem(odd), elem)
}

func TestTemplateHasItsContents(t *testing.T) {
	m := newMaker(t)
	id := m.elem("template", api.Attr{Name: "id", Value: "1"})
	if id != 1 || m.Len() != 3 {
		t.Fatalf("template: %d, Len %d", id, m.Len())
	}
	want := unlinked(api.KElement)
	want.Name, want.Attrs, want.Inner = "template", []api.Attr{{Name: "id", Value: "1"}}, 2
	checkNode(t, m.Arena, 1, want)
	checkNode(t, m.Arena, 2, unlinked(api.KFragment))
	if next := m.text("x"); next != 3 {
		t.Errorf("behind the contents: %d", next)
	}
}

func TestOnlyHTMLTemplateHasContents(t *testing.T) {
	m := newMaker(t)
	m.got(m.Element(api.SVG, "template", nil))
	m.got(m.Element(api.MathML, "template", nil))
	m.elem("TEMPLATE")
	m.elem("templat")
	m.elem("template ")
	if m.Len() != 6 {
		t.Errorf("Len: %d", m.Len())
	}
	for id := range m.Len() {
		if x, _ := m.Node(id); x.Inner != none || m.Host(id) != none {
			t.Errorf("node %d: Inner %d, Host %d", id, x.Inner, m.Host(id))
		}
	}
}

func TestAttributesAreKeptInOrder(t *testing.T) {
	m := newMaker(t)
	given := []api.Attr{
		{Name: "b", Value: "1"},
		{Name: "a", Value: "2"},
		{Name: "b", Value: "3"},
		{Space: api.XML, Prefix: "xml", Name: "lang", Value: ""},
		{Space: -7, Prefix: "?", Name: "", Value: "\xff"},
		{Space: 1 << 40, Name: "b"},
	}
	want := unlinked(api.KElement)
	want.Name = "p"
	want.Attrs = append(want.Attrs, given...)
	id := m.elem("p", given...)
	checkNode(t, m.Arena, id, want)
}

func TestAttributeListsAreCopied(t *testing.T) { // P4
	m := newMaker(t)
	given := make([]api.Attr, 1, 5)
	given[0] = api.Attr{Name: "a", Value: "1"}
	id := m.got(m.Element(api.HTML, "p", given))
	given[0].Value = "changed"
	told := m.attrs(id)
	if told[0].Value != "1" {
		t.Errorf("kept the list: %v", told)
	}
	told[0].Value = "changed"
	m.SetAttr(id, api.Attr{Name: "b"})
	if given = given[:2]; given[1].Name != "" {
		t.Errorf("wrote into the list that was handed in: %v", given)
	}
	if l := m.attrs(id); l[0].Value != "1" || len(l) != 2 || len(told) != 1 {
		t.Errorf("shares its answer: %v", l)
	}
}

func TestEmptyAndNilAttributesAreTheSame(t *testing.T) { // P3
	m := newMaker(t)
	want := unlinked(api.KElement)
	want.Name = "p"
	checkNode(t, m.Arena, m.got(m.Element(api.HTML, "p", []api.Attr{})), want)
	checkNode(t, m.Arena, m.got(m.Element(api.HTML, "p", nil)), want)
}

// refusal is a call that must err, and its error.
type refusal struct {
	what string
	call func(a *node.Arena) (int, api.Errno)
	want api.Errno
}

func element(space int, name string, attrs ...api.Attr) func(a *node.Arena) (int, api.Errno) {
	return func(a *node.Arena) (int, api.Errno) { return a.Element(space, name, attrs) }
}

func checkRefusals(t *testing.T, a *node.Arena, l []refusal) {
	t.Helper()
	for _, c := range l {
		n := a.Len()
		id, e := c.call(a)
		if id != 0 || e != c.want {
			t.Errorf("%s: %d, %d; want 0, %d", c.what, id, e, c.want)
		}
		if a.Len() != n {
			t.Errorf("%s: made a node", c.what)
		}
	}
}

func tooLong() []refusal {
	return []refusal{
		{"a long name", element(api.HTML, more), api.ErrLong},
		{"a long prefix", element(api.SVG, "a", api.Attr{}, api.Attr{Prefix: more}), api.ErrLong},
		{"a long attribute's name", element(api.MathML, "a", api.Attr{Name: more}), api.ErrLong},
		{"a long value", element(api.HTML, "template", api.Attr{Value: more}), api.ErrLong},
		{"many attributes", element(api.HTML, "a", make([]api.Attr, maxAttrs+1)...), api.ErrLong},
		{"a long text", func(a *node.Arena) (int, api.Errno) { return a.Text(more) }, api.ErrLong},
		{"a long comment", func(a *node.Arena) (int, api.Errno) { return a.Comment(more) }, api.ErrLong},
		{"a doctype's long name", func(a *node.Arena) (int, api.Errno) { return a.Doctype(more, "", "") }, api.ErrLong},
		{"a long public one", func(a *node.Arena) (int, api.Errno) { return a.Doctype("", more, "") }, api.ErrLong},
		{"a long system one", func(a *node.Arena) (int, api.Errno) { return a.Doctype("", "", more) }, api.ErrLong},
	}
}

func badSpaces() []refusal {
	var l []refusal
	for _, space := range []int{api.XLink, api.XML, api.XMLNS, 6, -1, -1 << 63, 1<<63 - 1} {
		l = append(l, refusal{"a namespace", element(space, "a"), api.ErrArg})
	}
	l = append(l, refusal{"a namespace ahead of a long name", element(3, more), api.ErrArg})
	return append(l, refusal{"a namespace ahead of many attributes", element(3, "a", make([]api.Attr, maxAttrs+1)...), api.ErrArg})
}

func TestRefusedNodes(t *testing.T) {
	a := node.New()
	checkRefusals(t, a, tooLong())
	checkRefusals(t, a, badSpaces())
}

func TestTextsAtTheLimit(t *testing.T) {
	m := newMaker(t)
	m.got(m.Element(api.HTML, most, []api.Attr{{Prefix: most, Name: most, Value: most}}))
	m.text(most)
	m.got(m.Comment(most))
	m.got(m.Doctype(most, most, most))
	if x, _ := m.Node(2); x.Data != most {
		t.Error("the text is another one")
	}
}

func TestAttributesAtTheLimit(t *testing.T) {
	m := newMaker(t)
	id := m.elem("p", make([]api.Attr, maxAttrs)...)
	if n := len(m.attrs(id)); n != maxAttrs {
		t.Errorf("attributes: %d", n)
	}
}

func TestNodesAtTheLimit(t *testing.T) {
	m := newMaker(t)
	m.fill(maxNodes - 1)
	checkRefusals(t, m.Arena, []refusal{{"a template where one has room", element(api.HTML, "template"), api.ErrFull}})
	if id := m.elem("p"); id != maxNodes-1 || m.Len() != maxNodes {
		t.Errorf("the last one: %d, Len %d", id, m.Len())
	}
	checkRefusals(t, m.Arena, []refusal{
		{"an element", element(api.HTML, "p"), api.ErrFull},
		{"a template", element(api.HTML, "template"), api.ErrFull},
		{"a text", func(a *node.Arena) (int, api.Errno) { return a.Text("") }, api.ErrFull},
		{"a comment", func(a *node.Arena) (int, api.Errno) { return a.Comment("") }, api.ErrFull},
		{"a doctype", func(a *node.Arena) (int, api.Errno) { return a.Doctype("", "", "") }, api.ErrFull},
		{"a fragment", func(a *node.Arena) (int, api.Errno) { return a.Fragment() }, api.ErrFull},
	})
	// ErrFull is named behind the others.
	checkRefusals(t, m.Arena, tooLong())
	checkRefusals(t, m.Arena, badSpaces())
	// What is there goes on as ever.
	m.link(0, maxNodes-1, none)
	m.link(maxNodes-1, maxNodes-2, none)
	checkKids(t, m.Arena, maxNodes-1, maxNodes-2)
}

func TestTemplateTakesTheLastTwo(t *testing.T) {
	m := newMaker(t)
	m.fill(maxNodes - 2)
	if id := m.elem("template"); id != maxNodes-2 || m.Len() != maxNodes || m.Host(maxNodes-1) != id {
		t.Errorf("template: %d, Len %d", id, m.Len())
	}
}

func TestTemplateOfAnotherNamespaceAsksForOne(t *testing.T) {
	m := newMaker(t)
	m.fill(maxNodes - 1)
	if id := m.got(m.Element(api.SVG, "template", nil)); id != maxNodes-1 {
		t.Errorf("template: %d", id)
	}
}
