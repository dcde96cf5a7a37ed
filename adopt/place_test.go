package adopt_test

import "testing"

// P15.1, step 2.6: C is a part of a table: with foster L is put ahead of the table, without it into C.
func TestCIsAPartOfATable(t *testing.T) {
	for _, part := range []string{"tbody", "tfoot", "thead", "tr"} {
		for _, foster := range []bool{false, true} {
			b := newBench(t)
			ids := b.open("body table " + part)
			f := b.elem("b")
			gives(t, "Link", b.a.Link(ids[0], f, ids[1]), ok)
			b.push(f)
			b.enter(f, tag("b"))
			b.open("p")
			b.text("x")
			b.runs("b", foster, false, 1, ok)
			if foster {
				b.tree(`body(b p(b'("x")) table(` + part + `))`)
			} else {
				b.tree(`body(b table(` + part + `(p(b'("x")))))`)
			}
			b.opened("body table " + part + " p")
			b.entered("")
		}
	}
}

// P15.1, step 2.6: C is the table itself; what is made anew goes with L.
func TestCIsATable(t *testing.T) {
	for _, foster := range []bool{false, true} {
		b := newBench(t)
		b.open("body table b* i* p")
		b.runs("b", foster, false, 1, ok)
		if foster {
			b.tree("body(i'(p(b')) table(b(i)))")
		} else {
			b.tree("body(table(b(i) i'(p(b'))))")
		}
	}
}

// P15.1, step 2.6: C is no part of a table: foster changes nothing, though a table is open.
func TestFosterWithoutATable(t *testing.T) {
	for _, words := range []string{"body", "body table td", "body table tr svg:tr", "body table caption"} {
		for _, foster := range []bool{false, true} {
			b := newBench(t)
			b.open(words)
			c := b.s.Top()
			b.open("b* p")
			b.runs("b", foster, false, 1, ok)
			b.below(c, "b p(b')")
			b.opened(words + " p")
		}
	}
}

// P15.1, step 2.6: foster is for each round that C is a part of a table in, not for what is put into N, M and B.
func TestFosterIsForLAlone(t *testing.T) {
	b := newBench(t)
	b.open("body table tbody1 b* i* tbody2 tr")
	b.text("x")
	b.runs("b", true, false, 2, ok)
	// The second round has tbody2 for C.
	b.tree(`body(i'(tbody2(b')) tr(b'("x")) table(tbody1(b(i))))`)
	b.opened("body table tbody1 i' tbody2 tr")
}

// P15.1, step 2.6: a table without a parent: what stands below it in the stack.
func TestFosterWithALooseTable(t *testing.T) {
	b := newBench(t)
	ids := b.open("body div table b* p")
	gives(t, "Unlink", b.a.Unlink(ids[2]), ok)
	b.runs("b", true, false, 1, ok)
	b.tree("body(div(p(b')))")
	b.below(ids[2], "b")
}

// P15.1, step 2.6: C is a template: L is put into its contents.
func TestCIsATemplate(t *testing.T) {
	for _, foster := range []bool{false, true} {
		b := newBench(t)
		b.open("body template b* i* p")
		b.text("x")
		b.runs("b", foster, false, 1, ok)
		b.tree(`body(template[b(i) i'(p(b'("x")))])`)
		b.opened("body template i' p")
	}
}

// P15.1, step 2.6: a template below a part of a table: with foster its contents.
func TestFosterInATemplate(t *testing.T) {
	b := newBench(t)
	ids := b.open("body table template tr b* p")
	b.runs("b", true, false, 1, ok)
	b.tree("body(table(template[tr(b) p(b')]))")
	b.opened("body table template tr p")
	if b.node(ids[2]).First != none {
		t.Errorf("the template itself has children")
	}
}

// P15.1: B would be a template: it is a border, so that F is not in the scope.
func TestBIsATemplate(t *testing.T) {
	b := newBench(t)
	b.open("body b* template")
	b.text("x")
	was := b.state()
	b.closes("b", 1)
	b.runs("b", true, false, 1, ok)
	b.unchanged("a template", was)
	// One nearer to the top than B is a border as well.
	b = newBench(t)
	b.open("body b* p template")
	was = b.state()
	b.closes("b", 1)
	b.unchanged("a template above B", was)
}

// P15.1, step 2.5: N is a template: L is put at its own end, and the contents are empty.
func TestNIsATemplate(t *testing.T) {
	b := newBench(t)
	ids := b.open("body b i p")
	b.enter(ids[1], tag("b"))
	b.enter(ids[2], tag("template"))
	b.closes("b", 1)
	b.tree("body(b(i) template'(p(b')))")
	b.opened("body template' p")
	b.entered("template'")
}

// P15.1, step 2.7: M is a template: what was in B becomes its own children.
func TestMIsATemplate(t *testing.T) {
	b := newBench(t)
	b.open("body template* p")
	// A template that is open has its contents filled; the p in them is put behind it.
	b.text("x")
	nodes := b.a.Len()
	b.closes("template", 1)
	b.tree(`body(template p(template'("x")))`)
	b.opened("body p")
	if b.a.Len() != nodes+2 {
		t.Errorf("%d new nodes", b.a.Len()-nodes)
	}
}

// P15.1: children of B are its own, not those of a template among them.
func TestTemplateInB(t *testing.T) {
	b := newBench(t)
	ids := b.open("body b* p")
	in := b.child(ids[2], "template")
	b.child(in, "em")
	b.link(in, b.elem("i"))
	b.closes("b", 1)
	b.tree("body(b p(b'(template[em](i))))")
}
