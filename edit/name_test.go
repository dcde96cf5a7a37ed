package edit_test

import (
	"slices"
	"strings"
	"testing"

	"hornbeam/api"
	"hornbeam/edit"
)

// Words: a name.

var badBytes = []byte{0, 9, 10, 12, 13, 32, '/', '=', '>', '<', '"', '\''}

func TestNameOfEachByte(t *testing.T) {
	for c := range 256 {
		b := string([]byte{byte(c)})
		want := !slices.Contains(badBytes, byte(c))
		for _, s := range []string{b, b + "abc", "ab" + b + "c", "abc" + b, strings.Repeat("a", 50) + b} {
			if edit.Name(s) != want {
				t.Errorf("Name(%q): %v", s, !want)
			}
		}
	}
}

func TestNameOfEachLength(t *testing.T) {
	for n := range 300 {
		if got, want := edit.Name(strings.Repeat("a", n)), n >= 1 && n <= 100; got != want {
			t.Errorf("Name of %d bytes: %v", n, got)
		}
	}
	if !edit.Name(strings.Repeat("é", 50)) || edit.Name(strings.Repeat("é", 51)) || edit.Name(more) {
		t.Error("bytes are counted")
	}
}

func TestNameOfAnyBeginning(t *testing.T) {
	for _, s := range []string{"1", "-a", "_", ":", "A", "é", "\xff\xfe", "\x0b", "`", "&;", "1\u2029", "x:y"} {
		if !edit.Name(s) {
			t.Errorf("Name(%q)", s)
		}
	}
}

func TestElementNamesBeginWithALetter(t *testing.T) {
	for c := range 256 {
		letter := c >= 'a' && c <= 'z' || c >= 'A' && c <= 'Z'
		for _, rest := range []string{"", "1", "-\xff"} {
			m := newMaker(t)
			id, e := edit.AddElement(m.Arena, string([]byte{byte(c)})+rest, 0)
			if letter && (id != 1 || e != api.OK || m.Len() != 2) {
				t.Errorf("beginning with %d: %d, %d", c, id, e)
			}
			if !letter && (id != 0 || e != api.ErrName || m.Len() != 1) {
				t.Errorf("beginning with %d: %d, %d", c, id, e)
			}
		}
	}
}

func TestElementNamesAreNames(t *testing.T) {
	m := newMaker(t)
	for _, c := range badBytes {
		id, e := edit.AddElement(m.Arena, "a"+string(rune(c)), 0)
		checkRefused(t, "a bad byte", id, e, api.ErrName)
	}
	id, e := edit.AddElement(m.Arena, strings.Repeat("a", 101), 0)
	checkRefused(t, "a long name", id, e, api.ErrName)
	id, e = edit.AddElement(m.Arena, "", 0)
	checkRefused(t, "no name", id, e, api.ErrName)
	if m.Len() != 1 {
		t.Errorf("Len: %d", m.Len())
	}
	longest := strings.Repeat("B", 100)
	if id, e = edit.AddElement(m.Arena, longest, 0); e != api.OK || m.tell(id).Name != strings.ToLower(longest) {
		t.Errorf("the longest name: %d, %d", id, e)
	}
}

// smalls are names, and what they are made small: A to Z alone, byte by byte.
var smalls = [][2]string{
	{"HTML", "html"},
	{"aZ-bY_9", "az-by_9"},
	{"AZaz", "azaz"},
	{"x@[`{", "x@[`{"},
	{"XÄÉ", "xÄÉ"},
	{"x\u212A", "x\u212A"}, // the Kelvin sign, whose small letter is k
	{"Q\xff\xc3A", "q\xff\xc3a"},
	{"İI", "İi"},
}

func TestElementNamesAreMadeSmall(t *testing.T) {
	for _, row := range smalls {
		if row[0][0] >= 128 {
			continue
		}
		m := newMaker(t)
		id, e := edit.AddElement(m.Arena, row[0], 0)
		if x := m.tell(id); e != api.OK || x.Name != row[1] || x.Space != api.HTML || len(x.Attrs) != 0 {
			t.Errorf("AddElement(%q): %+v, %d", row[0], x, e)
		}
	}
}

func TestAttrNamesAreMadeSmall(t *testing.T) {
	for _, row := range smalls {
		for space, want := range []string{row[1], row[0], row[0]} {
			m := newMaker(t)
			id := m.got(m.Element(space, "x", nil))
			checkErr(t, "SetAttr", edit.SetAttr(m.Arena, id, row[0], "V"), api.OK)
			if l := m.tell(id).Attrs; len(l) != 1 || l[0] != (api.Attr{Name: want, Value: "V"}) {
				t.Errorf("SetAttr(%q) of namespace %d: %+v", row[0], space, l)
			}
			checkErr(t, "DelAttr", edit.DelAttr(m.Arena, id, row[0]), api.OK)
			if l := m.tell(id).Attrs; len(l) != 0 {
				t.Errorf("DelAttr(%q) of namespace %d: %+v", row[0], space, l)
			}
		}
	}
}
