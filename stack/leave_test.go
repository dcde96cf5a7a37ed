package stack_test

import (
	"slices"
	"testing"
)

func wentTo(t *testing.T, b bench, name string, want bool, left ...int) {
	t.Helper()
	if b.s.PopTo(name) != want {
		t.Errorf("PopTo(%q): %v", name, !want)
	}
	holds(t, b.s, left...)
}

func went(t *testing.T, b bench, what string, got int, want int, left ...int) {
	t.Helper()
	if got != want {
		t.Errorf("%s: %d went; want %d", what, got, want)
	}
	holds(t, b.s, left...)
}

// P12.3: PopTo of the top, of one in the middle, of the first.
func TestPopTo(t *testing.T) {
	names := []string{"html", "body", "p", "b", "i"}
	for i, name := range names {
		b := newBench(t)
		ids := b.grow(names...)
		wentTo(t, b, name, true, ids[:i]...)
		wentTo(t, b, name, false, ids[:i]...)
		again := b.push(html, "x")
		holds(t, b.s, append(slices.Clone(ids[:i]), again)...)
	}
}

// P12.3: a name that stands there more than once: the first one from the top on.
func TestPopToOfTwo(t *testing.T) {
	b := newBench(t)
	ids := b.grow("p", "b", "p", "i", "p", "u")
	wentTo(t, b, "p", true, ids[:4]...)
	wentTo(t, b, "p", true, ids[:2]...)
	wentTo(t, b, "p", true)
	wentTo(t, b, "p", false)
}

// P12.3: no border holds PopTo, and none goes where there is no such name; elements of other namespaces have none.
func TestPopToOfOtherNames(t *testing.T) {
	b := newBench(t)
	ids := append(b.grow("x-below", "html", "table", "template"), b.push(svg, "title"), b.push(mathML, "mi"), b.push(svg, "p"), b.push(mathML, "p"))
	for _, name := range append(near("table"), "", "p", "title", "mi", "X-BELOW", "\xff", "x-", "svg") {
		wentTo(t, b, name, false, ids...)
	}
	wentTo(t, b, "x-below", true)

	both := newBench(t)
	ids = []int{both.push(html, "body"), both.push(html, "p"), both.push(svg, "p"), both.push(mathML, "p")}
	wentTo(t, both, "p", true, ids[0])
}

// P12.3: Implied of each name, in each namespace, with each name that goes named but; Thorough likewise.
func TestImpliedOfEachName(t *testing.T) {
	for _, name := range slices.Concat(everyName(), otherSizes("p"), otherSizes("option"), near("rb"), near("tr")) {
		for _, space := range spaces {
			goes := space == html && slices.Contains(implied, name)
			for _, but := range slices.Concat([]string{"", name, "b", "\xff", "P"}, implied, tableParts) {
				b := newBench(t)
				ids := []int{b.push(html, "body"), b.push(space, name)}
				if goes && but != name {
					went(t, b, "Implied("+but+") of "+name, b.s.Implied(but), 1, ids[0])
				} else {
					went(t, b, "Implied("+but+") of "+name, b.s.Implied(but), 0, ids...)
				}
			}
			b := newBench(t)
			ids := []int{b.push(html, "body"), b.push(space, name)}
			if goes || space == html && slices.Contains(tableParts, name) {
				went(t, b, "Thorough of "+name, b.s.Thorough(), 1, ids[0])
			} else {
				went(t, b, "Thorough of "+name, b.s.Thorough(), 0, ids...)
			}
		}
	}
}

// P12.3: all that go, one above the other: up to the first that stays, to the one that is named but, or to the last.
func TestImpliedOfMany(t *testing.T) {
	b := newBench(t)
	body := b.push(html, "body")
	ids := append([]int{body}, b.grow(implied...)...)
	went(t, b, "Implied but the top", b.s.Implied(implied[len(implied)-1]), 0, ids...)
	stop := slices.Index(implied, "optgroup")
	went(t, b, "Implied", b.s.Implied("optgroup"), len(implied)-stop-1, ids[:stop+2]...)
	went(t, b, "Implied once more", b.s.Implied("optgroup"), 0, ids[:stop+2]...)
	went(t, b, "Implied of all", b.s.Implied("body"), stop+1, body)

	b.s.Pop()
	b.grow(implied...)
	went(t, b, "Implied of the whole stack", b.s.Implied(""), len(implied))
	went(t, b, "Implied of an empty stack", b.s.Implied(""), 0)

	li := b.grow("li", "p", "b", "p")
	went(t, b, "Implied", b.s.Implied("x"), 1, li[:3]...)
	went(t, b, "Implied", b.s.Implied("x"), 0, li[:3]...)
	p := b.push(svg, "p")
	went(t, b, "Implied of another namespace", b.s.Implied(""), 0, append(li[:3:3], p)...)
}

// P12.3: as many of the same name as there are go.
func TestImpliedOfTheSame(t *testing.T) {
	b := newBench(t)
	body := b.push(html, "body")
	for range 1000 {
		b.push(html, "p")
	}
	b.grow("li", "li")
	went(t, b, "Implied", b.s.Implied("p"), 2, append([]int{body}, count(body+1, 1000)...)...)
	went(t, b, "Implied", b.s.Implied("P"), 1000, body)
}

// count is n numbers from first on.
func count(first int, n int) []int {
	var l []int
	for i := range n {
		l = append(l, first+i)
	}
	return l
}

// P12.3: Thorough takes off what Implied does, and parts of tables, mixed.
func TestThoroughOfMany(t *testing.T) {
	b := newBench(t)
	body := b.push(html, "body")
	both := slices.Concat(implied, tableParts)
	b.grow(both...)
	went(t, b, "Implied", b.s.Implied(""), 0, count(body, len(both)+1)...)
	went(t, b, "Thorough", b.s.Thorough(), len(both), body)
	went(t, b, "Thorough once more", b.s.Thorough(), 0, body)
	mixed := b.grow("table", "tbody", "p", "tr", "li", "td")
	went(t, b, "Thorough", b.s.Thorough(), 5, body, mixed[0])
	col := b.grow("tr", "col", "td")
	went(t, b, "Thorough", b.s.Thorough(), 1, body, mixed[0], col[0], col[1])
	b.s.PopTo("body")
	b.grow("td", "p")
	went(t, b, "Thorough of the whole stack", b.s.Thorough(), 2)
}

// P12.3: each name of each list, in each namespace, in the stack and out of it.
func TestSpecial(t *testing.T) {
	b := newBench(t)
	for _, name := range everyName() {
		for _, x := range append(near(name), name) {
			for _, space := range spaces {
				id := b.elem(space, x)
				want := isSpecial(space, x)
				if b.s.Special(id) != want {
					t.Errorf("Special of %q in namespace %d: %v", x, space, !want)
				}
				gives(t, "Push", b.s.Push(id), ok)
				if b.s.Special(id) != want || b.s.Pop() != id || b.s.Special(id) != want {
					t.Errorf("Special of %q in namespace %d is another in the stack", x, space)
				}
			}
		}
	}
	if len(specials) != 83 || len(mathNames) != 6 || len(svgNames) != 3 {
		t.Errorf("the lists: %d, %d, %d", len(specials), len(mathNames), len(svgNames))
	}
}

// P12.3: names that are like those of the list, and are not of it.
func TestNotSpecial(t *testing.T) {
	b := newBench(t)
	for _, name := range []string{"", "a", "b", "i", "u", "s", "em", "font", "nobr", "span", "label", "option", "optgroup", "rb", "rp",
		"rt", "rtc", "ruby", "svg", "math", "canvas", "video", "audio", "picture", "slot", "dialog", "image", "isindex", "command", "menuitem",
		"h", "h0", "h7", "mi", "mo", "mn", "ms", "mtext", "annotation-xml", "foreignObject", "foreignobject", "desc", "BODY", "\xff"} {
		if b.s.Special(b.elem(html, name)) {
			t.Errorf("%q is special", name)
		}
	}
	for _, id := range b.others() {
		if b.s.Special(id) {
			t.Errorf("Special(%d)", id)
		}
	}
	doctype, _ := b.a.Doctype("html", "", "")
	if b.s.Special(doctype) {
		t.Error("a doctype is special")
	}
}
