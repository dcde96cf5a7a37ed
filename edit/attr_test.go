package edit_test

import (
	"reflect"
	"strconv"
	"strings"
	"testing"

	"hornbeam/api"
	"hornbeam/edit"
)

// P2.3, of attributes and data

func checkAttrs(t *testing.T, m maker, id int, want ...api.Attr) {
	t.Helper()
	got := m.tell(id).Attrs
	if len(got) != len(want) || len(want) > 0 && !reflect.DeepEqual(got, want) {
		t.Errorf("attributes of %d: %v; want %v", id, got, want)
	}
}

func TestSetAttr(t *testing.T) {
	m := newMaker(t)
	id := m.got(m.Element(api.HTML, "p", []api.Attr{
		{Space: api.XLink, Prefix: "xlink", Name: "id", Value: "1"}, {Prefix: "odd", Name: "id", Value: "2"}, {Name: "id", Value: "3"}}))
	checkErr(t, "one that is there", edit.SetAttr(m.Arena, id, "ID", "X"), api.OK)
	checkErr(t, "a new one", edit.SetAttr(m.Arena, id, "1-Class", ""), api.OK)
	checkErr(t, "a long value", edit.SetAttr(m.Arena, id, "long", most), api.OK)
	checkAttrs(t, m, id,
		api.Attr{Space: api.XLink, Prefix: "xlink", Name: "id", Value: "1"},
		api.Attr{Prefix: "odd", Name: "id", Value: "X"},
		api.Attr{Name: "id", Value: "3"},
		api.Attr{Name: "1-class"},
		api.Attr{Name: "long", Value: most})
}

func TestSetAttrOfOtherNamespaces(t *testing.T) {
	for _, space := range []int{api.MathML, api.SVG} {
		m := newMaker(t)
		id := m.got(m.Element(space, "g", nil))
		checkErr(t, "large", edit.SetAttr(m.Arena, id, "viewBox", "1"), api.OK)
		checkErr(t, "small", edit.SetAttr(m.Arena, id, "viewbox", "2"), api.OK)
		checkErr(t, "again", edit.SetAttr(m.Arena, id, "viewBox", "3"), api.OK)
		checkErr(t, "with a colon", edit.SetAttr(m.Arena, id, "xlink:href", "4"), api.OK)
		checkAttrs(t, m, id, api.Attr{Name: "viewBox", Value: "3"}, api.Attr{Name: "viewbox", Value: "2"}, api.Attr{Name: "xlink:href", Value: "4"})
		checkErr(t, "DelAttr of another size", edit.DelAttr(m.Arena, id, "VIEWBOX"), api.ErrArg)
		checkErr(t, "DelAttr", edit.DelAttr(m.Arena, id, "viewBox"), api.OK)
		checkAttrs(t, m, id, api.Attr{Name: "viewbox", Value: "2"}, api.Attr{Name: "xlink:href", Value: "4"})
	}
}

func TestAttrOfAnHTMLElementThatIsNotSmall(t *testing.T) { // layer 1 keeps names as they are: the small name is another one
	m := newMaker(t)
	id := m.got(m.Element(api.HTML, "p", []api.Attr{{Name: "ID", Value: "1"}}))
	checkErr(t, "SetAttr", edit.SetAttr(m.Arena, id, "ID", "2"), api.OK)
	checkAttrs(t, m, id, api.Attr{Name: "ID", Value: "1"}, api.Attr{Name: "id", Value: "2"})
	checkErr(t, "DelAttr", edit.DelAttr(m.Arena, id, "ID"), api.OK)
	checkErr(t, "DelAttr again", edit.DelAttr(m.Arena, id, "ID"), api.ErrArg)
	checkAttrs(t, m, id, api.Attr{Name: "ID", Value: "1"})
}

func TestDelAttr(t *testing.T) {
	m := newMaker(t)
	id := m.got(m.Element(api.HTML, "p", []api.Attr{
		{Space: api.XML, Prefix: "xml", Name: "id"}, {Name: "id", Value: "1"}, {Name: "x"}, {Name: "id", Value: "2"}}))
	checkErr(t, "the first of two", edit.DelAttr(m.Arena, id, "Id"), api.OK)
	checkAttrs(t, m, id, api.Attr{Space: api.XML, Prefix: "xml", Name: "id"}, api.Attr{Name: "x"}, api.Attr{Name: "id", Value: "2"})
	checkErr(t, "the second one", edit.DelAttr(m.Arena, id, "id"), api.OK)
	checkErr(t, "of another namespace", edit.DelAttr(m.Arena, id, "id"), api.ErrArg)
	checkAttrs(t, m, id, api.Attr{Space: api.XML, Prefix: "xml", Name: "id"}, api.Attr{Name: "x"})
}

func TestAttrsRefuse(t *testing.T) {
	m := newMaker(t)
	id, others := m.one('e'), append(m.barren(), 0, m.one('f'), m.elem("template")+1)
	m.put(0, "e")
	was := all(m.Arena)
	bad := []string{"", "a b", "a=", "=a", "a/", "a>", "<a", "a\"", "a'", "a\x00", strings.Repeat("a", 101), more}
	for _, name := range append(bad, "ok") {
		for _, value := range []string{"", more} {
			for _, x := range append(outside, none, m.Len()) {
				checkErr(t, "no node", edit.SetAttr(m.Arena, x, name, value), api.ErrNone)
				checkErr(t, "no node", edit.DelAttr(m.Arena, x, name), api.ErrNone)
			}
			for _, x := range others {
				checkErr(t, "no element", edit.SetAttr(m.Arena, x, name, value), api.ErrKind)
				checkErr(t, "no element", edit.DelAttr(m.Arena, x, name), api.ErrKind)
			}
		}
	}
	for _, name := range bad {
		checkErr(t, "no name", edit.SetAttr(m.Arena, id, name, ""), api.ErrName)
		checkErr(t, "no name, a long value", edit.SetAttr(m.Arena, id, name, more), api.ErrName)
		checkErr(t, "no name", edit.DelAttr(m.Arena, id, name), api.ErrName)
	}
	checkErr(t, "a long value", edit.SetAttr(m.Arena, id, "ok", more), api.ErrLong)
	checkErr(t, "no such attribute", edit.DelAttr(m.Arena, id, "ok"), api.ErrArg)
	checkSame(t, m.Arena, was)
}

func TestSetAttrAtTheLimit(t *testing.T) {
	m := newMaker(t)
	id := m.one('e')
	for i := range maxAttrs {
		checkErr(t, "SetAttr", edit.SetAttr(m.Arena, id, strconv.Itoa(i), ""), api.OK)
	}
	was := all(m.Arena)
	checkErr(t, "one more", edit.SetAttr(m.Arena, id, "more", ""), api.ErrLong)
	checkErr(t, "one more without a name", edit.SetAttr(m.Arena, id, "", ""), api.ErrName)
	checkSame(t, m.Arena, was)
	checkErr(t, "one that is there", edit.SetAttr(m.Arena, id, "1023", "v"), api.OK)
	checkErr(t, "one goes", edit.DelAttr(m.Arena, id, "7"), api.OK)
	checkErr(t, "one comes", edit.SetAttr(m.Arena, id, "more", ""), api.OK)
}

func TestSetData(t *testing.T) {
	m := newMaker(t)
	text, comment := m.one('t'), m.put(0, "c")[0]
	for _, s := range []string{"x", "", "\xff\x00", most} {
		for _, id := range []int{text, comment} {
			checkErr(t, "SetData", edit.SetData(m.Arena, id, s), api.OK)
			if m.tell(id).Data != s {
				t.Errorf("SetData(%d): other data", id)
			}
		}
	}
}

func TestSetDataRefuses(t *testing.T) {
	m := newMaker(t)
	text := m.one('t')
	others := []int{0, m.one('e'), m.one('d'), m.one('f')}
	was := all(m.Arena)
	for _, id := range append(outside, none, m.Len()) {
		checkErr(t, "no node", edit.SetData(m.Arena, id, more), api.ErrNone)
	}
	for _, id := range others {
		checkErr(t, "another kind", edit.SetData(m.Arena, id, "x"), api.ErrKind)
		checkErr(t, "another kind, and long", edit.SetData(m.Arena, id, more), api.ErrKind)
	}
	checkErr(t, "long", edit.SetData(m.Arena, text, more), api.ErrLong)
	checkSame(t, m.Arena, was)
}
