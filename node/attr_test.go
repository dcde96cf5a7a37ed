package node_test

import (
	"reflect"
	"strconv"
	"testing"

	"hornbeam/api"
)

// P1.4

func TestSetData(t *testing.T) {
	m := newMaker(t)
	text, comment := m.text("t"), m.got(m.Comment("c"))
	for _, s := range []string{"u", "", "\xff\x00", most} {
		for _, id := range []int{text, comment} {
			checkErr(t, "SetData", m.SetData(id, s), api.OK)
			if x, _ := m.Node(id); x.Data != s {
				t.Errorf("SetData(%d): other data", id)
			}
		}
	}
}

func TestSetDataRefuses(t *testing.T) {
	l := newLinked(t)
	before := all(l.Arena)
	for _, id := range append(outside, l.Len()) {
		checkErr(t, "no node", l.SetData(id, more), api.ErrNone)
	}
	for _, id := range []int{0, l.x, l.in, l.doctype, l.frag, l.p} {
		checkErr(t, "another kind", l.SetData(id, "u"), api.ErrKind)
		checkErr(t, "another kind, and long", l.SetData(id, more), api.ErrKind)
	}
	checkErr(t, "a long text", l.SetData(l.text, more), api.ErrLong)
	checkErr(t, "a long comment", l.SetData(l.comment, more), api.ErrLong)
	checkSame(t, l.Arena, before)
}

func checkAttrs(t *testing.T, m maker, id int, want ...api.Attr) {
	t.Helper()
	got := m.attrs(id)
	if len(got) != len(want) || len(want) > 0 && !reflect.DeepEqual(got, want) {
		t.Errorf("attributes of %d: %v; want %v", id, got, want)
	}
}

func TestSetAttr(t *testing.T) {
	m := newMaker(t)
	id := m.elem("p",
		api.Attr{Name: "a", Value: "1"},
		api.Attr{Space: api.XLink, Prefix: "xlink", Name: "a", Value: "2"},
		api.Attr{Space: api.XLink, Prefix: "other", Name: "a", Value: "3"})
	checkErr(t, "a second one", m.SetAttr(id, api.Attr{Space: api.XLink, Prefix: "new", Name: "a", Value: "x"}), api.OK)
	checkErr(t, "a new one", m.SetAttr(id, api.Attr{Space: api.XML, Prefix: "xml", Name: "a", Value: "y"}), api.OK)
	checkErr(t, "another new one", m.SetAttr(id, api.Attr{Name: "A", Value: "z"}), api.OK)
	checkErr(t, "an old one", m.SetAttr(id, api.Attr{Name: "a", Value: ""}), api.OK)
	checkAttrs(t, m, id,
		api.Attr{Name: "a", Value: ""},
		api.Attr{Space: api.XLink, Prefix: "xlink", Name: "a", Value: "x"},
		api.Attr{Space: api.XLink, Prefix: "other", Name: "a", Value: "3"},
		api.Attr{Space: api.XML, Prefix: "xml", Name: "a", Value: "y"},
		api.Attr{Name: "A", Value: "z"})
}

func TestSetAttrTakesAnySpace(t *testing.T) {
	m := newMaker(t)
	id := m.got(m.Element(api.SVG, "g", nil))
	x := api.Attr{Space: -9, Name: ""}
	checkErr(t, "SetAttr", m.SetAttr(id, x), api.OK)
	checkAttrs(t, m, id, x)
}

func TestSetAttrRefuses(t *testing.T) {
	l := newLinked(t)
	before := all(l.Arena)
	long := []api.Attr{{Prefix: more}, {Name: more}, {Value: more}}
	for _, x := range append(long, api.Attr{Name: "a"}) {
		for _, id := range append(outside, l.Len()) {
			checkErr(t, "no node", l.SetAttr(id, x), api.ErrNone)
		}
		for _, id := range []int{0, l.in, l.text, l.comment, l.doctype, l.frag} {
			checkErr(t, "another kind", l.SetAttr(id, x), api.ErrKind)
		}
	}
	for _, x := range long {
		checkErr(t, "a long one", l.SetAttr(l.p, x), api.ErrLong)
	}
	checkSame(t, l.Arena, before)
}

func TestSetAttrOfTextsAtTheLimit(t *testing.T) {
	m := newMaker(t)
	x := api.Attr{Prefix: most, Name: most, Value: most}
	id := m.elem("p")
	checkErr(t, "SetAttr", m.SetAttr(id, x), api.OK)
	checkErr(t, "a long prefix of what is there", m.SetAttr(id, api.Attr{Prefix: more, Name: most}), api.ErrLong)
	checkAttrs(t, m, id, x)
}

func TestSetAttrAtTheLimit(t *testing.T) {
	m := newMaker(t)
	id := m.elem("p")
	for i := range maxAttrs {
		checkErr(t, "SetAttr", m.SetAttr(id, api.Attr{Name: strconv.Itoa(i)}), api.OK)
	}
	before := all(m.Arena)
	checkErr(t, "one more", m.SetAttr(id, api.Attr{Name: "more"}), api.ErrLong)
	checkErr(t, "one more of another namespace", m.SetAttr(id, api.Attr{Space: api.XML, Name: "0"}), api.ErrLong)
	checkSame(t, m.Arena, before)
	checkErr(t, "one that is there", m.SetAttr(id, api.Attr{Name: "1023", Value: "v"}), api.OK)
	if l := m.attrs(id); len(l) != maxAttrs || l[1023].Value != "v" {
		t.Errorf("attributes: %d", len(l))
	}
	checkErr(t, "one goes", m.DelAttr(id, 0, "5"), api.OK)
	checkErr(t, "one comes", m.SetAttr(id, api.Attr{Name: "more"}), api.OK)
	if l := m.attrs(id); l[5].Name != "6" || l[1023].Name != "more" {
		t.Errorf("the order: %v, %v", l[5], l[1023])
	}
}

func TestDelAttr(t *testing.T) {
	m := newMaker(t)
	a, b, c, d := api.Attr{Name: "a", Value: "1"}, api.Attr{Name: "b"}, api.Attr{Name: "a", Value: "2"}, api.Attr{Space: api.XML, Name: "a"}
	id := m.elem("p", a, b, c, d)
	checkErr(t, "the first of two", m.DelAttr(id, api.HTML, "a"), api.OK)
	checkAttrs(t, m, id, b, c, d)
	checkErr(t, "of a namespace", m.DelAttr(id, api.XML, "a"), api.OK)
	checkAttrs(t, m, id, b, c)
	checkErr(t, "the second of two", m.DelAttr(id, api.HTML, "a"), api.OK)
	checkErr(t, "the last one", m.DelAttr(id, api.HTML, "b"), api.OK)
	checkAttrs(t, m, id)
	checkErr(t, "none", m.DelAttr(id, api.HTML, "b"), api.ErrArg)
}

func TestDelAttrRefuses(t *testing.T) {
	l := newLinked(t)
	l.SetAttr(l.p, api.Attr{Space: api.XLink, Prefix: "xlink", Name: "a"})
	before := all(l.Arena)
	for _, id := range append(outside, l.Len()) {
		checkErr(t, "no node", l.DelAttr(id, 0, "a"), api.ErrNone)
	}
	for _, id := range []int{0, l.in, l.text, l.comment, l.doctype, l.frag} {
		checkErr(t, "another kind", l.DelAttr(id, 0, "a"), api.ErrKind)
	}
	checkErr(t, "another namespace", l.DelAttr(l.p, api.HTML, "a"), api.ErrArg)
	checkErr(t, "a namespace that is none", l.DelAttr(l.p, -1, "a"), api.ErrArg)
	checkErr(t, "another name", l.DelAttr(l.p, api.XLink, "A"), api.ErrArg)
	checkErr(t, "a long name", l.DelAttr(l.p, api.XLink, more), api.ErrArg)
	checkSame(t, l.Arena, before)
}

func TestAnswersStayBehindChanges(t *testing.T) { // P4
	m := newMaker(t)
	id := m.elem("p", api.Attr{Name: "a"}, api.Attr{Name: "b"})
	told := m.attrs(id)
	m.SetAttr(id, api.Attr{Name: "a", Value: "v"})
	m.DelAttr(id, 0, "b")
	if told[0].Value != "" || told[1].Name != "b" {
		t.Errorf("an answer changed: %v", told)
	}
}

func TestCopyIsTheSame(t *testing.T) {
	l := newLinked(t)
	l.SetAttr(l.p, api.Attr{Name: "a", Value: "1"})
	l.SetAttr(l.x, api.Attr{Name: "b", Value: "2"})
	c := l.Copy()
	checkSame(t, c, all(l.Arena))
	for id := range l.Len() {
		if c.Host(id) != l.Host(id) || c.Above(l.text, id) != l.Above(l.text, id) || !reflect.DeepEqual(c.Kids(id), l.Kids(id)) {
			t.Errorf("node %d is another one", id)
		}
	}
}

// changeAll does each change that there is.
func changeAll(l linked) {
	l.SetAttr(l.p, api.Attr{Name: "a", Value: "changed"})
	l.SetAttr(l.p, api.Attr{Name: "new"})
	l.SetAttr(l.x, api.Attr{Name: "new"})
	l.DelAttr(l.x, 0, "b")
	l.SetData(l.text, "changed")
	l.Unlink(l.p)
	l.Link(0, l.loose, l.x)
	l.text = l.maker.text("more")
	l.elem("template")
}

func TestCopyIsApart(t *testing.T) {
	l := newLinked(t)
	l.SetAttr(l.x, api.Attr{Name: "b", Value: "2"})
	l.SetAttr(l.p, api.Attr{Name: "a", Value: "1"})
	l.SetAttr(l.loose, api.Attr{Name: "c", Value: "3"})
	was := all(l.Arena)
	c := l
	c.Arena = l.Copy()
	changeAll(c)
	checkSame(t, l.Arena, was)
	checkSound(t, c.Arena)
	checkAttrs(t, c.maker, l.p, api.Attr{Name: "a", Value: "changed"}, api.Attr{Name: "new"})
	checkAttrs(t, c.maker, l.loose, api.Attr{Name: "c", Value: "3"})
	checkAttrs(t, c.maker, l.x, api.Attr{Name: "new"})
	was = all(c.Arena)
	changeAll(l)
	l.SetAttr(l.loose, api.Attr{Name: "c", Value: "changed"})
	checkSame(t, c.Arena, was)
}

func TestCopyOfAFullArena(t *testing.T) {
	m := newMaker(t)
	m.fill(maxNodes)
	c := m.Copy()
	if c.Len() != maxNodes {
		t.Errorf("Len: %d", c.Len())
	}
	if id, e := c.Text(""); id != 0 || e != api.ErrFull {
		t.Errorf("one more: %d, %d", id, e)
	}
}
