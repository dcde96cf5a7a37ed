package builder_test

import (
	"strconv"
	"strings"
	"testing"

	"hornbeam/api"
)

// P16.2: texts of a token at the limit and above it, wherever they are, of every kind.
func TestLongTexts(t *testing.T) {
	long, longer := strings.Repeat("x", maxText), strings.Repeat("x", maxText+1)
	for kind := range 6 {
		for _, set := range []func(x *api.Token, s string){
			func(x *api.Token, s string) { x.Name = s },
			func(x *api.Token, s string) { x.Data = s },
			func(x *api.Token, s string) { x.System = s },
			func(x *api.Token, s string) { x.Attrs = []api.Attr{{}, {Name: s}} },
			func(x *api.Token, s string) { x.Attrs = []api.Attr{{Value: s}} },
			func(x *api.Token, s string) { x.Attrs = []api.Attr{{Name: "a"}, {Prefix: s, Name: "c"}} },
		} {
			w := newBench(t)
			x := api.Token{Kind: kind, Char: 'a'}
			set(&x, longer)
			w.refuses(x, errLong)
			set(&x, long)
			w.take(x)
		}
	}
}

// P16.2: as many attributes as there may be, and one more.
func TestManyAttributes(t *testing.T) {
	attrs := make([]api.Attr, maxAttrs+1)
	for i := range attrs {
		attrs[i].Name = "a" + strconv.Itoa(i)
	}
	for kind := range 6 {
		w := newBench(t)
		w.refuses(api.Token{Kind: kind, Name: "p", Attrs: attrs}, errLong)
		w.take(api.Token{Kind: kind, Name: "p", Attrs: attrs[:maxAttrs]})
		if kind == start && len(w.node(w.b.Open()[2]).Attrs) != maxAttrs {
			t.Errorf("p has %d attributes", len(w.node(w.b.Open()[2]).Attrs))
		}
	}
}

// P16.2: an arena that has just as many nodes as there may be, and one more, with entries of the list and markers.
func TestNearlyFull(t *testing.T) {
	for _, c := range []struct {
		in      string
		entries int
	}{{"<p>", 0}, {"<p><b>", 1}, {"<p><b><i></p>", 2}, {"<object>", 1}, {"<object><b><table><td>", 3}} {
		w := newBench(t)
		w.feed(c.in)
		w.fill(maxNodes - 64 - c.entries)
		w.take(closes("x"), api.Token{Kind: comment})
		if w.a.Len() != maxNodes-63-c.entries {
			t.Fatalf("%s: %d nodes", c.in, w.a.Len())
		}
		for _, x := range []api.Token{char('a'), char(0), opens("p"), closes("p"), {Kind: comment}, {Kind: doctype}, {Kind: eof}} {
			w.refuses(x, errFull)
		}
		w.refuses(api.Token{Kind: 9}, errArg)
		w.refuses(api.Token{Kind: comment, Data: strings.Repeat("x", maxText+1)}, errLong)
		if w.b.Over() {
			t.Errorf("%s: over", c.in)
		}
	}
}

// P16.2: a list that gets shorter makes room, and a character 10 that is to be left out is refused too.
func TestRoomComesBack(t *testing.T) {
	w := newBench(t)
	w.feed("<body><b><i><u>")
	w.fill(maxNodes - 64 - 3)
	w.take(closes("u"), closes("i"), closes("b"), api.Token{Kind: comment}, api.Token{Kind: comment}, opens("pre"))
	w.take(char('\n'), api.Token{Kind: eof})
	w.isOver()

	w = newBench(t)
	w.feed("<body><pre>")
	w.fill(maxNodes - 63)
	w.refuses(char('\n'), errFull)
}

// many opens formatting elements that are not alike.
func many(name string, n int) string {
	var s strings.Builder
	for i := range n {
		s.WriteString("<" + name + " a=" + strconv.Itoa(i) + ">")
	}
	return s.String()
}

// P2, P16.2: a start tag that needs an element for each entry twice is refused, if there is no room for them, and nothing
// of it is done; with room for them it is done.
func TestNoRoomForTwice(t *testing.T) {
	for _, c := range []struct {
		in   string
		x    api.Token
		need int
	}{
		{"<p><nobr>" + many("b", 100) + "</p>", opens("nobr"), 101 + 100 + 1},
		{"<p><a>" + many("b", 100) + "</p><table>x", opens("a"), 101 + 1 + 100 + 1},
		{"<p><nobr>" + many("b", 100) + "</p><table> x", opens("nobr"), 101 + 1 + 100 + 1},
		{"<b><object><p><nobr>" + many("b", 100) + "</p>", opens("nobr"), 101 + 100 + 1},
	} {
		w := newBench(t)
		w.feed("<!DOCTYPE html>" + c.in)
		w.fill(maxNodes - c.need)
		w.take(c.x)
		if w.a.Len() != maxNodes {
			t.Errorf("%d nodes", w.a.Len())
		}
		if got := w.entered(); !strings.HasSuffix(got, strings.Repeat("b ", 100)+c.x.Name) {
			t.Errorf("the list is %s", got)
		}

		for _, short := range []int{1, 2, 30} {
			w = newBench(t)
			w.feed("<!DOCTYPE html>" + c.in)
			w.fill(maxNodes - c.need + short)
			w.refuses(c.x, errFull)
			w.refuses(c.x, errFull)
			w.take(api.Token{Kind: comment})
		}
	}
}

// P2, P16.2: what a table's text needs may leave the agency too little room.
func TestNoRoomForTheAgency(t *testing.T) {
	for _, c := range []struct {
		in     string
		x      api.Token
		tree   string
		errors int
	}{
		{"<p><b></p><table>x", closes("b"), `p(b) b("x") table`, 3},
		{"<p><a></p><table>x", opens("a"), `p(a) a("x") a table`, 4},
		{"<p><nobr></p><table>x", opens("nobr"), `p(nobr) nobr("x") nobr table`, 4},
	} {
		w := newBench(t)
		w.feed("<!DOCTYPE html>" + c.in)
		w.fill(maxNodes - 64 - 1)
		w.refuses(c.x, errFull)
		w.take(opens("tr"))

		w = newBench(t)
		w.feed("<!DOCTYPE html>" + c.in)
		w.fill(maxNodes - 64 - 2)
		w.take(c.x)
		w.tree("<!html> html(head body(" + c.tree + "))")
		w.has(c.errors)
	}
}

// P2, P16.2: html and body get no more attributes than an element may have: all that a tag brings, or none.
func TestMergeTooMuch(t *testing.T) {
	attrs := func(from, to int) []api.Attr {
		var l []api.Attr
		for i := from; i < to; i++ {
			l = append(l, api.Attr{Name: "a" + strconv.Itoa(i), Value: strconv.Itoa(from)})
		}
		return l
	}
	for _, c := range []struct {
		name  string
		begin string
		place int
	}{{"html", "<body>", 0}, {"body", "<body>", 1}, {"html", "<body><table>x", 0}, {"body", "<body><table> x", 1}, {"body", "<body><svg><g>", 1}, {"body", "<body><table><colgroup>", 1},
		{"body", "<body></body>", 1}, {"html", "<body><select>", 0}, {"body", "<body></body></html>", 1}} {
		w := newBench(t)
		w.feed("<!DOCTYPE html>" + c.begin)
		id := w.b.Open()[c.place]
		for _, x := range attrs(0, 1000) {
			gives(t, "SetAttr", w.a.SetAttr(id, x), ok)
		}
		w.refuses(api.Token{Kind: start, Name: c.name, Attrs: attrs(1000, 1025)}, errLong)
		w.refuses(api.Token{Kind: start, Name: c.name, Attrs: attrs(900, 1025)}, errLong)
		w.take(api.Token{Kind: start, Name: c.name, Attrs: attrs(900, 1024)})
		x := w.node(id)
		if len(x.Attrs) != maxAttrs || x.Attrs[999].Value != "0" || x.Attrs[1000] != (api.Attr{Name: "a1000", Value: "900"}) || x.Attrs[1023].Name != "a1023" {
			t.Errorf("%s behind %s: %d attributes", c.name, c.begin, len(x.Attrs))
		}
		w.take(api.Token{Kind: start, Name: c.name, Attrs: attrs(0, 1024)})
		w.refuses(api.Token{Kind: start, Name: c.name, Attrs: attrs(1024, 1025)}, errLong)
	}
}

// P16.2: merge: by Space and Name, in order, each once.
func TestMerge(t *testing.T) {
	w := newBench(t)
	w.feed("<!DOCTYPE html><html a=1><body>")
	root := w.b.Open()[0]
	w.take(api.Token{Kind: start, Name: "html", Attrs: []api.Attr{{Name: "c", Value: "2"}, {Name: "a", Value: "3"}, {Name: "c", Value: "4"}, {Space: 4, Prefix: "xml", Name: "a", Value: "5"}, {Name: "A", Value: "6"}}})
	want := []api.Attr{{Name: "a", Value: "1"}, {Name: "c", Value: "2"}, {Space: 4, Prefix: "xml", Name: "a", Value: "5"}, {Name: "A", Value: "6"}}
	got := w.node(root).Attrs
	if len(got) != 4 || got[0] != want[0] || got[1] != want[1] || got[2] != want[2] || got[3] != want[3] {
		t.Errorf("html has %v", got)
	}
	w.has(1)
}

// P2, P16.2: a character that a text has no room for is refused, whatever is done ahead of it.
func TestFullText(t *testing.T) {
	for _, c := range []struct {
		in string
		x  api.Token
	}{
		{"<p>a", char('c')}, {"<p>a", char(' ')}, {"a</body>", char('c')}, {"a</body>", char(' ')}, {"a</body></html>", char('c')}, {"<svg>a", char('c')}, {"<svg>a", char(0)},
		{"<textarea>a", char('c')}, {"<select>a", char('c')}, {"<head> ", char(' ')}, {"<head></head> ", char(' ')}, {"<frameset> ", char(' ')}, {"<template>a", char('c')},
		{"<table><td>a", char('c')}, {"<table><caption>a", char('c')}, {"<b>a", char('c')}, {"<pre>a", char('\n')}, {"<head><noscript> ", char(' ')}, {"<table><b>a", char('c')},
		{"<frameset></frameset> ", char(' ')}, {"<table><colgroup> ", char(' ')},
	} {
		w := newBench(t)
		w.feed("<!DOCTYPE html>" + c.in)
		text := w.a.Len() - 1
		gives(t, "SetData", w.a.SetData(text, strings.Repeat("x", maxText)), ok)
		w.refuses(c.x, errLong)
		w.refuses(c.x, errLong)
		gives(t, "SetData", w.a.SetData(text, strings.Repeat("x", maxText-3)), ok)
		if !strings.ContainsRune(" \x00", c.x.Char) {
			w.refuses(char(0x10000), errLong)
		}
		w.take(c.x)
		if len(w.node(text).Data) < maxText-2 {
			t.Errorf("%s: %d bytes", c.in, len(w.node(text).Data))
		}
	}
}

// P16.2: of a table's text, what a text has no room for is left out; the token that comes behind it is done.
func TestFullTextOfATable(t *testing.T) {
	for _, c := range []struct{ begin, more string }{{"<table> <!--x-->", "\t\n"}, {"a<table>", "bc"}} {
		w := newBench(t)
		w.feed("<!DOCTYPE html><body>" + c.begin)
		text := w.b.Open()[1] + 1
		if w.node(text).Kind != api.KText {
			text = w.a.Len() - 2
		}
		if c.begin[0] == '<' {
			comment := w.a.Kids(w.b.Open()[2])[1]
			gives(t, "Unlink", w.a.Unlink(comment), ok)
		}
		gives(t, "SetData", w.a.SetData(text, strings.Repeat("x", maxText-1)), ok)
		w.feed(c.more + "<tr>")
		if got := w.node(text).Data; len(got) != maxText || got[maxText-1] != c.more[0] {
			t.Errorf("%q: %d bytes", c.more, len(got))
		}
		if w.opened() != "html body table tbody tr" {
			t.Errorf("%q: the stack is %s", c.more, w.opened())
		}
	}
}

// P14.4, P16.2: a text that grows as long as one may be, by characters of all lengths.
func TestLongText(t *testing.T) {
	w := newBench(t)
	w.feed("<!DOCTYPE html><p>")
	n := 0
	for n < maxText {
		for _, c := range []rune{'a', 'é', 0x20AC, 0x10000, 0xD800, -1} {
			size := map[rune]int{'a': 1, 'é': 2, 0x20AC: 3, 0x10000: 4, 0xD800: 3, -1: 3}[c]
			want := api.Errno(ok)
			if n+size > maxText {
				want = errLong
			} else {
				n += size
			}
			gives(t, "Token", w.b.Token(char(c)), want)
		}
	}
	got := w.node(w.a.Len() - 1).Data
	if len(got) != maxText || !strings.HasPrefix(got, "aé€\U00010000\uFFFD\uFFFDaé€") {
		t.Errorf("%d bytes, %.20q", len(got), got)
	}
}
