package adopt_test

import (
	"strings"
	"testing"

	"hornbeam/api"
)

// The chapter's example: <b>1<p>2</b>3.
func TestExample(t *testing.T) {
	b := newBench(t)
	b.open("body b*")
	b.text("1")
	b.open("p")
	b.text("2")
	b.closes("b", 1)
	b.tree(`body(b("1") p(b'("2")))`)
	b.opened("body p")
	b.entered("")
}

// P15.1, steps 2.4 to 2.8: nothing in B.
func TestBWithoutChildren(t *testing.T) {
	b := newBench(t)
	b.open("html body b* p")
	b.closes("b", 1)
	b.tree("html(body(b p(b')))")
	b.opened("html body p")
	b.entered("")
}

// P15.1, step 2.7: all children of B, in their order, with what is in them.
func TestChildrenOfB(t *testing.T) {
	b := newBench(t)
	ids := b.open("html body b* div")
	b.text("1")
	p := b.child(ids[3], "p")
	b.child(p, "em")
	b.text("2")
	b.child(ids[3], "b2")
	template := b.child(ids[3], "template")
	b.child(template, "i")
	b.text("3")
	b.closes("b", 1)
	b.opened("html body div")
	b.tree(`html(body(b div(b'("1" p(em) "2" b2 template[i] "3"))))`)
}

// P15.1, steps 2.6: what stands in F ahead of B and behind it stays in F; L comes behind what is in C.
func TestWhatStaysInF(t *testing.T) {
	b := newBench(t)
	ids := b.open("html body b*")
	b.text("1")
	b.open("p")
	b.text("2")
	b.link(ids[2], b.got(b.a.Text("3")))
	b.child(ids[1], "hr")
	b.closes("b", 1)
	b.tree(`html(body(b("1" "3") hr p(b'("2"))))`)
}

// P15.1, step 2.3: of several special ones above F it is the one nearest to F; the others follow it.
func TestNearestSpecial(t *testing.T) {
	b := newBench(t)
	b.open("html body b* p div")
	b.text("x")
	b.closes("b", 2)
	b.tree(`html(body(b p(b' div(b'("x")))))`)
	b.opened("html body p div")
	b.entered("")
	b = newBench(t)
	b.open("html body b* span p div ul")
	b.text("x")
	b.closes("b", 3)
	b.tree(`html(body(b(span) p(b' div(b' ul(b'("x"))))))`)
	b.opened("html body p div ul")
}

// P15.1, step 2.3: each special element that is no border of the scope is B; the elements of other namespaces that are
// special are borders.
func TestEachSpecial(t *testing.T) {
	words := "address area article aside base basefont bgsound blockquote body br button center col colgroup dd details " +
		"dir div dl dt embed fieldset figcaption figure footer form frame frameset head header hgroup hr iframe img " +
		"input keygen li link listing main menu meta nav noembed noframes noscript ol p param plaintext pre script " +
		"search section select source style summary tbody textarea tfoot thead title tr track ul wbr xmp"
	for _, word := range strings.Fields(words) {
		b := newBench(t)
		b.open("html b* span " + word + " em")
		b.text("x")
		b.closes("b", 2)
		b.tree(`html(b(span) ` + word + `(b'(em("x"))))`)
		b.opened("html " + word)
		b.entered("")
	}
}

// P15.1, step 2.4: F is the first of the stack: C is the document.
func TestFIsTheFirst(t *testing.T) {
	b := newBench(t)
	b.open("b* i* p")
	b.text("x")
	b.closes("b", 1)
	b.tree(`b(i) i'(p(b'("x")))`)
	b.opened("i' p")
	b.entered("i'")
}

// P15.1, step 2.4: C is below F in the stack, whatever its parent is.
func TestCIsOfTheStack(t *testing.T) {
	b := newBench(t)
	ids := b.open("html body div")
	f := b.child(ids[1], "b")
	b.push(f)
	b.enter(f, tag("b"))
	b.open("p")
	b.closes("b", 1)
	b.tree("html(body(div(p(b')) b))")
	b.opened("html body div p")
}

// P15.1, step 2.5: the elements between F and B: those with an entry are made anew, the others go from the stack and
// stay in the tree.
func TestBetween(t *testing.T) {
	for _, c := range []struct{ words, tree, opened, entered string }{
		{"b* i* p", "body(b(i) i'(p(b')))", "body i' p", "i'"},
		{"b* span p", "body(b(span) p(b'))", "body p", ""},
		{"b* i* u* p", "body(b(i(u)) i'(u'(p(b'))))", "body i' u' p", "i' u'"},
		{"b* i* span p", "body(b(i(span)) i'(p(b')))", "body i' p", "i'"},
		{"b* span i* p", "body(b(span(i)) i'(p(b')))", "body i' p", "i'"},
		{"b* span i* x p", "body(b(span(i(x))) i'(p(b')))", "body i' p", "i'"},
		{"b* i* span u* p", "body(b(i(span(u))) i'(u'(p(b'))))", "body i' u' p", "i' u'"},
		{"b* i svg:u p", "body(b(i(svg:u)) p(b'))", "body p", ""},
		{"b* i* u* em* p", "body(b(i(u(em))) i'(u'(em'(p(b')))))", "body i' u' em' p", "i' u' em'"},
	} {
		b := newBench(t)
		b.open("body " + c.words)
		b.closes("b", 1)
		b.tree(c.tree)
		b.opened(c.opened)
		b.entered(c.entered)
	}
}

// P15.1, step 2.5: L is put at the end of the new element, which has nothing else in it; what stood in N stays there.
func TestWhatStaysInN(t *testing.T) {
	b := newBench(t)
	b.open("body b*")
	b.text("1")
	b.open("i*")
	b.text("2")
	b.open("span")
	b.text("3")
	b.open("p")
	b.text("4")
	b.closes("b", 1)
	b.tree(`body(b("1" i("2" span("3"))) i'(p(b'("4"))))`)
}

// P15.1, step 2.5: up to three steps below B an entry is kept, from the fourth on it goes; elements without one count.
func TestAboveThree(t *testing.T) {
	for _, c := range []struct{ words, tree, opened, entered string }{
		{"b* i* u* em* a* p", "body(b(i(u(em(a)))) u'(em'(a'(p(b')))))", "body u' em' a' p", "u' em' a'"},
		{"b* i* s* u* em* a* p", "body(b(i(s(u(em(a))))) u'(em'(a'(p(b')))))", "body u' em' a' p", "u' em' a'"},
		{"b* i* u* span em* p", "body(b(i(u(span(em)))) u'(em'(p(b'))))", "body u' em' p", "u' em'"},
		{"b* i* x y z p", "body(b(i(x(y(z)))) p(b'))", "body p", ""},
		{"b* i* y z p", "body(b(i(y(z))) i'(p(b')))", "body i' p", "i'"},
		{"b* x i* y z u* p", "body(b(x(i(y(z(u))))) u'(p(b')))", "body u' p", "u'"},
		{"b* i* u* em* s* a* tt* p", "body(b(i(u(em(s(a(tt)))))) s'(a'(tt'(p(b')))))", "body s' a' tt' p", "s' a' tt'"},
	} {
		b := newBench(t)
		b.open("body " + c.words)
		b.closes("b", 1)
		b.tree(c.tree)
		b.opened(c.opened)
		b.entered(c.entered)
	}
}

// P15.1, step 2: each round counts anew.
func TestCountOfEachRound(t *testing.T) {
	b := newBench(t)
	b.open("body b* i1* u1* p1 i2* u2* p2")
	b.closes("b", 2)
	b.tree("body(b(i1(u1)) i1'(u1'(p1(b'(i2(u2)) i2'(u2'(p2(b')))))))")
	b.opened("body i1' u1' p1 i2' u2' p2")
	b.entered("i1' u1' i2' u2'")
}

// P15.1: one run behind the other.
func TestOneBehindTheOther(t *testing.T) {
	b := newBench(t)
	b.open("body a* b* i* p")
	b.text("x")
	b.closes("i", 1)
	b.tree(`body(a(b(i p(i'("x")))))`)
	b.opened("body a b p")
	b.entered("a b")
	b.closes("a", 1)
	b.tree(`body(a(b(i)) b'(p(a'(i'("x")))))`)
	b.opened("body b' p")
	b.entered("b'")
	b.closes("b", 1)
	b.tree(`body(a(b(i)) b' p(b'(a'(i'("x")))))`)
	b.opened("body p")
	b.entered("")
	b.runs("b", false, true, 0, ok)
	b.closes("p", 0)
	b.opened("body")
}

// P15.1: an element that was made anew has an entry, and is made anew again.
func TestAnewOfAnew(t *testing.T) {
	b := newBench(t)
	b.open("body b* u* i* p")
	b.closes("b", 1)
	b.opened("body u' i' p")
	b.entered("u' i'")
	b.closes("u", 1)
	b.tree("body(b(u(i)) u'(i') i'(p(u'(b'))))")
	b.opened("body i' p")
	b.entered("i'")
}

// P15.1: several of one name, one end tag: the last one alone, until there is no special element above it.
func TestSeveralOfOneName(t *testing.T) {
	b := newBench(t)
	b.open("body b1* b2* p")
	b.text("x")
	b.closes("b", 1)
	b.tree(`body(b1(b2 p(b2'("x"))))`)
	b.opened("body b1 p")
	b.entered("b1")
	b.closes("b", 1)
	b.tree(`body(b1(b2) p(b1'(b2'("x"))))`)
	b.opened("body p")
	b.entered("")
}

// P15.1, step 2: an element of the name without an entry, between F and B, goes as others do.
func TestOneOfTheNameWithoutAnEntry(t *testing.T) {
	b := newBench(t)
	b.open("body b1* b2 p b3")
	b.closes("b", 0)
	b.opened("body b1 b2 p")
	b.closes("b", 1)
	b.opened("body p")
	b.tree("body(b1(b2) p(b1'(b3)))")
}

// P15.1, step 2.8: M stands right above B, ahead of those that stand above it.
func TestMInTheStack(t *testing.T) {
	b := newBench(t)
	ids := b.open("body b u div i span")
	b.enter(ids[2], tag("u"))
	gives(t, "Mark", b.l.Mark(), ok)
	b.enter(ids[1], tag("b"))
	// The new u's entry is ahead of the marker, and with it M's: the second round finds none, and M stays open.
	b.runs("b", false, true, 1, ok)
	b.opened("body u' div b' i span")
	b.entered("u' b' |")
	b.tree("body(b(u) u'(div(b'(i(span)))))")
}

// P15.1: eight times, and no more.
func TestEightTimes(t *testing.T) {
	for n := range 12 {
		b := newBench(t)
		b.open("body b*" + strings.Repeat(" div", n))
		b.text("x")
		nodes := b.a.Len()
		b.closes("b", min(n, 8))
		if made := b.a.Len() - nodes; made != min(n, 8) {
			t.Errorf("%d special elements: %d new ones", n, made)
		}
		if n < 8 {
			b.opened(strings.TrimRight("body"+strings.Repeat(" div", n), " "))
			b.entered("")
		} else {
			b.opened("body" + strings.Repeat(" div", 8) + " b'" + strings.Repeat(" div", n-8))
			b.entered("b'")
		}
		want := `"x"`
		for range max(n-8, 0) {
			want = "div(" + want + ")"
		}
		for i := range min(n, 8) {
			want = "b'(" + want + ")"
			if i > 0 {
				want = strings.Replace(want, "b'(", "b' ", 1)
				want = want[:len(want)-1]
			}
			want = "div(" + want + ")"
		}
		if n == 0 {
			b.tree("body(b(" + want + "))")
		} else {
			b.tree("body(b " + want + ")")
		}
	}
}

// P15.1: what is left of eight times is done by the next run.
func TestEightTimesTwice(t *testing.T) {
	b := newBench(t)
	b.open("body b*" + strings.Repeat(" div", 11))
	b.closes("b", 8)
	b.closes("b", 3)
	b.opened("body" + strings.Repeat(" div", 11))
	b.entered("")
	b.runs("b", false, true, 0, ok)
}

// P15.1: a new element has the token's name and attributes, all of them, in order, and is of HTML.
func TestNewElement(t *testing.T) {
	b := newBench(t)
	attrs := []api.Attr{
		{Name: "z", Value: "1"},
		{Space: api.XLink, Prefix: "xlink", Name: "href", Value: "u"},
		{Name: "a"},
		{Name: "z", Value: "2"},
	}
	ids := b.open("body b i svg:u p")
	for i, name := range []string{"bb", "ii", "uu"} {
		b.enter(ids[i+1], api.Token{Kind: api.TStart, Name: name, Self: true, Attrs: attrs[i:]})
	}
	// M is named otherwise than the end tag, so that the second round finds none.
	b.runs("b", false, true, 1, ok)
	id := b.s.At(1)
	for i, name := range []string{"ii", "uu", "bb"} {
		x := b.node(id)
		if x.Kind != api.KElement || x.Space != html || x.Name != name || x.Data != "" {
			t.Errorf("%s: %v", name, x)
		}
		if want := attrs[(i+1)%3:]; !equalAttrs(x.Attrs, want) {
			t.Errorf("%s: the attributes %v; want %v", name, x.Attrs, want)
		}
		if name == "uu" {
			id = x.First
		}
		id = b.node(id).First
	}
	if b.s.Len() != 5 || b.l.Len() != 3 {
		t.Errorf("%d open, %d entries", b.s.Len(), b.l.Len())
	}
	for i, name := range []string{"ii", "uu", "bb"} {
		x, _ := b.l.At(i)
		if x.Token.Name != name || !x.Token.Self || !equalAttrs(x.Token.Attrs, attrs[(i+1)%3:]) {
			t.Errorf("entry %d: %v", i, x)
		}
	}
}

func equalAttrs(x []api.Attr, y []api.Attr) bool {
	if len(x) != len(y) {
		return false
	}
	for i := range x {
		if x[i] != y[i] {
			return false
		}
	}
	return true
}
