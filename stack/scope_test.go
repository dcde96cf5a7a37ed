package stack_test

import (
	"testing"
)

// P12.2: each name of each list, in each namespace, between the top and what is looked for, in each kind of scope.
func TestEachBorder(t *testing.T) {
	for _, name := range everyName() {
		for _, space := range spaces {
			b := newBench(t)
			sought := b.grow("body", "x-sought")[1]
			between := b.push(space, name)
			for range 3 {
				for _, kind := range kinds {
					// With anything above it, every element but optgroup and option ends the select scope.
					want := !isBorder(space, name, kind) && (kind != selectScope || b.s.Top() == between)
					inScope(t, b.s, "x-sought", kind, want)
					inNodeScope(t, b.s, sought, kind, want)
				}
				b.push(html, "b")
			}
		}
	}
}

// P12.2: a list of each kind's borders told by hand, apart from the reading that the other tests lean on.
func TestBordersByName(t *testing.T) {
	no, yes := false, true
	for _, row := range []struct {
		space int
		name  string
		want  [5]bool // whether what is below it is in the scope, the list scope, the button, table and select scope
	}{
		{html, "html", [5]bool{no, no, no, no, no}},
		{html, "table", [5]bool{no, no, no, no, no}},
		{html, "template", [5]bool{no, no, no, no, no}},
		{html, "applet", [5]bool{no, no, no, yes, no}},
		{html, "caption", [5]bool{no, no, no, yes, no}},
		{html, "td", [5]bool{no, no, no, yes, no}},
		{html, "th", [5]bool{no, no, no, yes, no}},
		{html, "marquee", [5]bool{no, no, no, yes, no}},
		{html, "object", [5]bool{no, no, no, yes, no}},
		{html, "ol", [5]bool{yes, no, yes, yes, no}},
		{html, "ul", [5]bool{yes, no, yes, yes, no}},
		{html, "button", [5]bool{yes, yes, no, yes, no}},
		{html, "option", [5]bool{yes, yes, yes, yes, yes}},
		{html, "optgroup", [5]bool{yes, yes, yes, yes, yes}},
		{html, "select", [5]bool{yes, yes, yes, yes, no}},
		{html, "tr", [5]bool{yes, yes, yes, yes, no}},
		{html, "body", [5]bool{yes, yes, yes, yes, no}},
		{html, "title", [5]bool{yes, yes, yes, yes, no}},
		{mathML, "mi", [5]bool{no, no, no, yes, no}},
		{mathML, "mo", [5]bool{no, no, no, yes, no}},
		{mathML, "mn", [5]bool{no, no, no, yes, no}},
		{mathML, "ms", [5]bool{no, no, no, yes, no}},
		{mathML, "mtext", [5]bool{no, no, no, yes, no}},
		{mathML, "annotation-xml", [5]bool{no, no, no, yes, no}},
		{mathML, "math", [5]bool{yes, yes, yes, yes, no}},
		{mathML, "title", [5]bool{yes, yes, yes, yes, no}},
		{mathML, "optgroup", [5]bool{yes, yes, yes, yes, no}},
		{svg, "foreignObject", [5]bool{no, no, no, yes, no}},
		{svg, "desc", [5]bool{no, no, no, yes, no}},
		{svg, "title", [5]bool{no, no, no, yes, no}},
		{svg, "foreignobject", [5]bool{yes, yes, yes, yes, no}},
		{svg, "option", [5]bool{yes, yes, yes, yes, no}},
		{svg, "table", [5]bool{yes, yes, yes, yes, no}},
	} {
		b := newBench(t)
		sought := b.push(html, "p")
		b.push(row.space, row.name)
		for kind, want := range row.want {
			inScope(t, b.s, "p", kind, want)
			inNodeScope(t, b.s, sought, kind, want)
		}
	}
}

// P12.2: an element that has the name is in the scope though it is a border itself; of other namespaces it has no name.
func TestBorderThatIsSought(t *testing.T) {
	for _, name := range everyName() {
		for _, space := range spaces {
			b := newBench(t)
			id := b.push(space, name)
			for _, kind := range kinds {
				inScope(t, b.s, name, kind, space == html)
				inNodeScope(t, b.s, id, kind, true)
			}
			b.push(html, "option")
			for _, kind := range kinds {
				inScope(t, b.s, name, kind, space == html || name == "option")
				inNodeScope(t, b.s, id, kind, true)
			}
		}
	}
}

// P12.2: the same name further down is found behind elements of other namespaces that end no scope, and not behind others.
func TestNameOfOtherNamespaces(t *testing.T) {
	for _, name := range everyName() {
		for _, space := range []int{mathML, svg} {
			b := newBench(t)
			below := b.push(html, name)
			b.push(space, name)
			for _, kind := range kinds {
				want := !isBorder(space, name, kind)
				inScope(t, b.s, name, kind, want)
				inNodeScope(t, b.s, below, kind, want)
			}
		}
	}
}

// P12.2: letters of another size, and names that are nearly a border's, end no scope and are not found.
func TestNearBorders(t *testing.T) {
	for _, name := range everyName() {
		for _, other := range near(name) {
			for _, space := range spaces {
				b := newBench(t)
				b.grow("x-sought")
				b.push(space, other)
				for _, kind := range kinds {
					inScope(t, b.s, "x-sought", kind, !isBorder(space, other, kind))
					inScope(t, b.s, other, kind, space == html)
					inScope(t, b.s, name, kind, false)
				}
			}
		}
	}
}

// P12.2: a name that stands there more than once: the one nearest to the top is it; a node is one of them alone.
func TestNameTwice(t *testing.T) {
	b := newBench(t)
	ids := b.grow("html", "p", "table", "p", "b")
	inScope(t, b.s, "p", scope, true)
	inNodeScope(t, b.s, ids[3], scope, true)
	inNodeScope(t, b.s, ids[1], scope, false)
	b.s.Remove(ids[3])
	inScope(t, b.s, "p", scope, false)
	inNodeScope(t, b.s, ids[3], scope, false)
	b.s.Remove(ids[2])
	inScope(t, b.s, "p", scope, true)
	inNodeScope(t, b.s, ids[1], scope, true)

	twice := newBench(t)
	tables := twice.grow("table", "table")
	inScope(t, twice.s, "table", tableScope, true)
	inNodeScope(t, twice.s, tables[1], tableScope, true)
	inNodeScope(t, twice.s, tables[0], tableScope, false)
}

// P12.2: what does not stand there is in no scope, with borders and without, and be it an element of the arena.
func TestNotThere(t *testing.T) {
	b := newBench(t)
	b.grow("body", "option")
	away := b.elem(html, "p")
	for _, kind := range append(otherKinds, kinds...) {
		inScope(t, b.s, "p", kind, false)
		inNodeScope(t, b.s, away, kind, false)
		for _, name := range []string{"", " ", "\xff", "\xffoption", "OPTION", "option\x00", "\u017f"} {
			inScope(t, b.s, name, kind, false)
		}
		for _, id := range b.others() {
			inNodeScope(t, b.s, id, kind, false)
		}
	}
}

// P12.2: kinds that there are none of, with what is looked for at the top.
func TestOtherKinds(t *testing.T) {
	b := newBench(t)
	for _, name := range []string{"p", "html", "option", "button", "table"} {
		id := b.push(html, name)
		for _, kind := range otherKinds {
			inScope(t, b.s, name, kind, false)
			inNodeScope(t, b.s, id, kind, false)
		}
		inScope(t, b.s, name, scope, true)
	}
}

// P12.2: names of an element that are empty, or no UTF-8, are names like others.
func TestOddNames(t *testing.T) {
	for _, name := range []string{"", "\xff", "\x00", "a b", "\u00e9", "\xed\xa0\x80"} {
		b := newBench(t)
		id := b.grow("html", name, "option")[1]
		for _, kind := range kinds {
			inScope(t, b.s, name, kind, true)
			inScope(t, b.s, name+"\xff", kind, false)
			inNodeScope(t, b.s, id, kind, true)
		}
		if b.s.Special(id) || b.s.Implied(name) != 1 || b.s.Thorough() != 0 || !b.s.PopTo(name) || b.s.Len() != 1 {
			t.Errorf("%q: %d", name, b.s.Len())
		}
	}
}

// P12.2: the chapter's examples.
func TestExamples(t *testing.T) {
	b := newBench(t)
	b.grow("html", "body", "p", "b")
	inScope(t, b.s, "p", scope, true)
	b.grow("table")
	inScope(t, b.s, "p", scope, false)
	li := b.grow("li")[0]
	if b.s.Top() != li || b.s.Implied("") != 1 || b.s.Find(li) != -1 {
		t.Error("li has not gone")
	}
}
