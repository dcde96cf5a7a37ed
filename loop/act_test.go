package loop_test

import (
	"strconv"
	"strings"
	"testing"

	"hornbeam/api"
	"hornbeam/edit"
	"hornbeam/node"
)

// small is a page whose arena has: the document 0, a comment 1, a doctype 2, html 3, head 4, body 5, a template 6 with its
// contents 7, a p 8 in them, a div 9, a text 10, an svg 11.
const small = "<!--c-->" + doctype + "<body><template><p></template><div id=x>t</div><svg>"

// plainAct does an act of edit's by the chapter's words, in any arena.
func plainAct(a *node.Arena, x api.Act) api.Errno {
	switch x.What {
	case 0:
		return edit.Insert(a, x.A, x.B, none)
	case 1:
		return edit.Insert(a, x.A, x.B, x.C)
	case 2:
		return edit.Remove(a, x.A)
	case 3:
		_, e := edit.AddText(a, x.Text, x.B)
		return e
	case 4:
		_, e := edit.AddElement(a, x.Text, x.B)
		return e
	case 5:
		return edit.SetAttr(a, x.A, x.Text, x.More)
	case 6:
		return edit.DelAttr(a, x.A, x.Text)
	case 7:
		return edit.SetData(a, x.A, x.Text)
	}
	return errArg
}

// actsOf are acts of a kind at all nodes of an arena of n, and at numbers that are none.
func actsOf(what, n int) []api.Act {
	var ids []int
	for id := -2; id <= n; id++ {
		ids = append(ids, id)
	}
	ids = append(ids, minInt, maxInt, 1<<32)
	texts := []string{"", "id", "ID", "Q", "a b", "9", "\xff", strings.Repeat("n", 101)}
	var l []api.Act
	for _, a := range ids {
		if what > 1 {
			for _, s := range texts {
				l = append(l, api.Act{What: what, A: a, B: a, C: -a, Text: s, More: "m" + s})
			}
			continue
		}
		for _, b := range ids {
			l = append(l, api.Act{What: what, A: a, B: b, C: 3}, api.Act{What: what, A: a, B: b, C: b}, api.Act{What: what, A: a, B: b, C: none})
			if b >= 0 && b <= n {
				l = append(l, api.Act{What: what, A: a, B: 5, C: b}, api.Act{What: what, A: a, B: 0, C: b})
			}
		}
	}
	return l
}

// P21.3: each act of edit's is that call, with its error; what errs changes nothing. Told of a task's acts and of a
// script's.
func TestActsOfEdit(t *testing.T) {
	for what := range 8 {
		w := newBench(t)
		w.page(small, "0")
		n := w.l.Tree().Len()
		seen := map[int]int{}
		for _, x := range actsOf(what, n) {
			w := newBench(t)
			w.page(small, "0")
			a := w.l.Tree().Copy()
			before := w.state()
			e := int(plainAct(a, x))
			seen[e]++
			w.script("0 "+strconv.Itoa(e), x)
			after := w.state()
			want := before
			if e == ok {
				want.nodes = nodesOf(a)
			}
			same(t, short(x), after, want)
		}
		if seen[ok] == 0 || seen[errNone] == 0 || len(seen) < []int{3, 4, 3, 3, 3, 4, 4, 3}[what] {
			t.Errorf("acts %d: errors %v", what, seen)
		}
	}
}

// P21.3: likewise while a page is being parsed: the parser goes on with what a script has made of the tree.
func TestActsOfEditInAScript(t *testing.T) {
	for what := range 8 {
		for _, x := range actsOf(what, 12) {
			w := newBench(t, acts(x))
			w.begin(small+"</svg>", "0")
			a := w.l.Tree().Copy()
			w.bytes("<script>", "0")
			a.Element(0, "script", nil)
			a.Link(5, 12, none)
			e := int(plainAct(a, x))
			w.bytes("</script>", "1 "+strconv.Itoa(e))
			got := w.state()
			same(t, short(x), got, state{nodesOf(a), got.result, true, 1, 0})
		}
	}
}

// P21.3: acts of no known number.
func TestActsOfNone(t *testing.T) {
	for _, what := range []int{-1, 12, 13, 99, 255, 256, 256 + 9, 1 << 16, 1 << 32, 1<<32 + 11, -1 << 31, minInt, minInt + 11, maxInt} {
		x := api.Act{What: what, A: 9, B: 5, C: none, Text: "a", More: "b"}
		w := newBench(t, acts(x, write("1"), x))
		w.begin(small+"</svg><script></script>", "1 1 0 1")
		before := w.state()
		w.script("0 1 1", x, x)
		same(t, "in the middle", w.state(), before)
		w.end("0")
		before = w.state()
		w.script("0 1 1 1", x, x, x)
		same(t, "behind the end", w.state(), before)
		w.script("0 0 1 0", open, x, close)
	}
}

// P21.3: the parser goes on in the tree that a script has changed.
func TestParsingGoesOnInAChangedTree(t *testing.T) {
	// 0 the document, 1 doctype, 2 html, 3 head, 4 body, 5 div, 6 a, 7 script
	for _, c := range []struct {
		acts []api.Act
		step string
		tree string
	}{
		{acts(text("x", 5)), "1 0", `html(head body(div("a" script "xb") "c"))`},
		{acts(data(6, "x"), elem("I", 5)), "1 0 0", `html(head body(div("x" script i "b") "c"))`},
		{acts(remove(5)), "1 0", `html(head body("c"))`},
		{acts(remove(7), text("y", 4)), "1 0 0", `html(head body(div("ab") "yc"))`},
		{acts(remove(2), elem("p", 0), insert(4, 8)), "1 0 0 0", `p(body(div("a" script "b") "c"))`},
		{acts(before(5, 2, 4), before(3, 5, 6)), "1 0 0", `html(div(head "a" script "b") body("c"))`},
		{acts(attr(5, "Q", "1"), attr(5, "q", "2"), unattr(5, "q"), attr(4, "r", "3")), "1 0 0 0 0", `html(head body{r=3}(div("a" script "b") "c"))`},
		{acts(insert(2, 5), insert(5, 5), before(5, 4, 3), remove(0)), "1 20 20 21 21", `html(head body(div("a" script "b") "c"))`},
	} {
		w := newBench(t, c.acts)
		w.page(doctype+"<div>a<script></script>b</div>c", c.step)
		w.tree("doctype:html " + c.tree)
	}
}

// P21.3: a text that is too long, an arena that is full.
func TestActsAtTheLimits(t *testing.T) {
	long := strings.Repeat("x", maxText)
	w := newBench(t)
	w.page(doctype+"<p>a", "0")
	w.script("0 0 2 0 2 0 2", text(long, 5), text(long+"x", 5), data(6, long), data(6, long+"x"), attr(5, "a", long), attr(5, "a", long+"x"))
	w.tree(`doctype:html html(head body(p{a=` + long + `}("` + long + `" "` + long + `")))`)
	fill(w, 2)
	before := w.state()
	w.script("0 22 20 6", elem("", 4), elem("x", 0), text("", maxNodes-2))
	same(t, "refused", w.state(), before)
	w.script("0 0 9 0 9 9 0", elem("b", 4), elem("template", 4), text("c", 4), text("d", 4), elem("e", 4), open)
	w.tree("")
}

// P21.3: a script's acts are its parser's, and so is what they lead to behind one that errs.
func TestActsBehindOneThatErrs(t *testing.T) {
	w := newBench(t, acts(remove(99), close, write("1"), api.Act{What: 77}, open, elem("<", 4), write("2"), insert(4, 4)))
	w.page(doctype+"<body><script></script>a", "1 6 5 0 1 5 22 0 20")
	w.tree(`doctype:html html(head body(script "12a"))`)
}
