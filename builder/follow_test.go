package builder_test

import (
	"math/rand"
	"slices"
	"strings"
	"testing"

	"hornbeam/api"
	"hornbeam/builder"
	"hornbeam/edit"
	"hornbeam/node"
	"hornbeam/show"
)

// names are those that have a rule of their own, and some that have none.
var names = strings.Fields("address p div ul ol dl center main search h1 h2 h6 pre listing form li dd dt plaintext button a nobr b i font u code applet marquee object table caption col " +
	"colgroup tbody td tfoot th thead tr br img input hr param image textarea xmp iframe noembed noscript noframes script style title base link meta template html head body " +
	"frameset frame select option optgroup ruby rb rt rp rtc math svg mi mo annotation-xml mglyph malignmark foreignobject foreignObject desc g span x")

var contexts = strings.Fields("html head body div p table caption colgroup tbody tr td select template form frameset title script svg")

// soup makes tokens of a few names each, so that rules meet.
type soup struct {
	r     *rand.Rand
	names []string
}

func newSoup(r *rand.Rand) soup {
	if r.Intn(3) == 0 {
		return soup{r, names}
	}
	var few []string
	for range 2 + r.Intn(8) {
		few = append(few, names[r.Intn(len(names))])
	}
	return soup{r, few}
}

func (s soup) token() api.Token {
	name := s.names[s.r.Intn(len(s.names))]
	switch n := s.r.Intn(20); {
	case n < 9:
		x := opens(name)
		if s.r.Intn(5) == 0 {
			x.Attrs = attrsOf([]string{"type", "hidden", "encoding", "text/html", "a", string(rune('0' + s.r.Intn(3)))})
		}
		x.Self = s.r.Intn(8) == 0
		return x
	case n < 15:
		return closes(name)
	case n < 18:
		return char([]rune{'a', ' ', '\n', 0, 'é', -1}[s.r.Intn(6)])
	case n < 19:
		return api.Token{Kind: comment, Data: "x"}
	}
	return api.Token{Kind: doctype, Name: "html", Has: 1}
}

// follows asks for what the promises say of every builder.
func (w bench) follows(what string) {
	w.t.Helper()
	if !show.Sound(w.a) {
		w.t.Fatalf("%s: the tree is not sound", what)
	}
	for _, id := range w.b.Open() {
		w.word(id)
		if w.node(id).Kind != api.KElement {
			w.t.Fatalf("%s: %d on the stack is no element", what, id)
		}
	}
	for _, x := range w.b.Active() {
		if x.Node != none && w.node(x.Node).Kind != api.KElement {
			w.t.Fatalf("%s: %d in the list is no element", what, x.Node)
		}
	}
	open := w.b.Open()
	slices.Sort(open)
	if len(slices.Compact(open)) != len(w.b.Open()) {
		w.t.Fatalf("%s: an element is twice on the stack", what)
	}
}

// single asks for one element and one doctype at most, which a parser alone makes.
func (w bench) single(what string) {
	w.t.Helper()
	count := map[int]int{}
	for _, id := range w.a.Kids(0) {
		count[w.node(id).Kind]++
	}
	if count[api.KElement] > 1 || count[api.KDoctype] > 1 || count[api.KText] > 0 {
		w.t.Fatalf("%s: the document has %s", what, w.tell(0))
	}
}

func wordsOf(l []api.Token) string {
	var s strings.Builder
	for _, x := range l {
		s.WriteString([]string{"<!doctype>", "<" + x.Name + ">", "</" + x.Name + ">", "<!--x-->", string(x.Char), "."}[x.Kind])
	}
	return s.String()
}

// P16.5: tokens in any order: each ends, the tree stays sound, the document has one element and one doctype at most.
func TestWhatFollows(t *testing.T) {
	r := rand.New(rand.NewSource(16))
	for range 4000 {
		s, context := newSoup(r), ""
		if r.Intn(2) == 0 {
			context = contexts[r.Intn(len(contexts))]
		}
		w := benchOf(t, r.Intn(2) == 0, context)
		var l []api.Token
		for range 1 + r.Intn(60) {
			x := s.token()
			l = append(l, x)
			errors := w.b.Errors()
			w.take(x)
			w.follows(context + ": " + wordsOf(l))
			w.single(context + ": " + wordsOf(l))
			if w.b.Errors() < errors || w.b.Mode() < 0 || w.b.Mode() > 22 || w.b.Over() || len(w.b.Open()) == 0 && w.b.Mode() > 1 {
				t.Fatalf("%s: the mode is %d, the stack %s", wordsOf(l), w.b.Mode(), w.opened())
			}
		}
		w.take(api.Token{Kind: eof})
		w.isOver()
		w.single(wordsOf(l))
		w.follows(wordsOf(l))
	}
}

// P5: the same tokens lead to the same tree, whatever other builders do meanwhile.
func TestTheSameAgain(t *testing.T) {
	r := rand.New(rand.NewSource(17))
	for range 300 {
		s := newSoup(r)
		one, two := newBench(t), newBench(t)
		for range 40 {
			x := s.token()
			one.take(x)
			two.take(x)
		}
		if one.tell(0) != two.tell(0) || one.b.Errors() != two.b.Errors() || one.opened() != two.opened() || one.entered() != two.entered() || one.b.Mode() != two.b.Mode() {
			t.Fatalf("%s\n%s", one.tell(0), two.tell(0))
		}
	}
}

// act changes the tree as a script may.
func act(r *rand.Rand, a *node.Arena) {
	x, y := r.Intn(a.Len()), r.Intn(a.Len())
	switch r.Intn(6) {
	case 0:
		edit.Insert(a, x, y, none)
	case 1:
		edit.Remove(a, x)
	case 2:
		edit.AddText(a, "t", x)
	case 3:
		edit.SetAttr(a, x, "encoding", "text/html")
	case 4:
		edit.SetData(a, x, "d")
	case 5:
		edit.AddElement(a, "table", x)
	}
}

// P16.5, G4: with a script's doings in between the tree stays sound, and each token ends.
func TestWhatFollowsBehindScripts(t *testing.T) {
	r := rand.New(rand.NewSource(18))
	for range 2000 {
		s := newSoup(r)
		w := newBench(t)
		var l []api.Token
		for range 1 + r.Intn(60) {
			for range r.Intn(3) {
				act(r, w.a)
			}
			x := s.token()
			l = append(l, x)
			w.take(x)
			w.follows(wordsOf(l))
		}
		w.take(api.Token{Kind: eof})
		w.isOver()
		w.follows(wordsOf(l))
	}
}

// P16.5, P2: pages that fill an arena: from some token on all are refused, and nothing of them is done.
func TestWhatFollowsInAFullArena(t *testing.T) {
	r := rand.New(rand.NewSource(19))
	for range 12 {
		s := newSoup(r)
		w := newBench(t)
		w.fill(maxNodes - 200)
		for range 400 {
			x := s.token()
			before, full := w.a.Len(), w.a.Len() > maxNodes-64-len(w.b.Active())
			e := w.b.Token(x)
			// One that closes a formatting element may need more than there is.
			if e != errFull && full || e != ok && !full && (x.Kind != start && x.Kind != end || e != errFull) {
				t.Fatalf("%d nodes: Token: %d", before, e)
			}
			if e == errFull && w.a.Len() != before {
				t.Fatalf("%d nodes, %d ahead of a token that was refused", w.a.Len(), before)
			}
		}
		w.follows("a full arena")
		w.single("a full arena")
	}
}

// P1, G3: deep pages and long lists end.
func TestGreatPages(t *testing.T) {
	for _, s := range []string{strings.Repeat("<span>", 6000), many("b", 2000) + "<p>x" + strings.Repeat("</b>", 300), "<p>" + many("i", 500) + strings.Repeat("</p><p>x", 20),
		strings.Repeat("<table><td>", 2500), strings.Repeat("<template>", 4000), strings.Repeat("<svg><desc>", 3000), strings.Repeat("<select><option>a", 5000), strings.Repeat("<table>a<b>c", 2500)} {
		w := newBench(t)
		w.feed(s)
		w.feedEnd()
		w.isOver()
		w.follows(s[:20])
	}
}

// P16.1: the example of what a fragment leads to.
func TestFragmentExample(t *testing.T) {
	a := node.New()
	b, e := builder.Fragment(a, false, "tr")
	gives(t, "Fragment", e, ok)
	gives(t, "Token", b.Token(opens("td")), ok)
	if b.Mode() != inCell || len(b.Active()) != 1 {
		t.Errorf("the mode is %d", b.Mode())
	}
	gives(t, "Token", b.Token(opens("tr")), ok)
	gives(t, "Token", b.Token(char(' ')), ok)
	if b.Mode() == tableText || b.Mode() != 13 {
		t.Errorf("the mode is %d", b.Mode())
	}
}
