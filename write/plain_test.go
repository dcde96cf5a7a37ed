package write_test

import (
	"math/rand"
	"strconv"
	"strings"
	"testing"

	"hornbeam/api"
)

// P17.2: trees that are great, and trees held against a plain reading of the promise.

// written tells what is in a thing by the chapter's words, the plain way: by texts put behind one another.
func (x thing) written(scripts bool) string {
	if x.isAmong(voids...) {
		return ""
	}
	kids, parent := x.kids, x
	if x.isAmong("template") {
		kids, parent = x.inner, fragment()
	}
	s := ""
	for _, kid := range kids {
		s += kid.whole(parent, scripts)
	}
	return s
}

func (x thing) whole(parent thing, scripts bool) string {
	switch x.kind {
	case api.KText:
		if parent.isAmong(plain...) || scripts && parent.isAmong("noscript") {
			return x.data
		}
		return escaped(x.data, false)
	case api.KComment:
		return "<!--" + x.data + "-->"
	case api.KDoctype:
		return "<!DOCTYPE " + x.name + ">"
	}
	s := "<" + x.name
	for _, attr := range x.attrs {
		s += " " + shownName(attr) + `="` + escaped(attr.Value, true) + `"`
	}
	if x.isAmong(voids...) {
		return s + ">"
	}
	return s + ">" + x.written(scripts) + "</" + x.name + ">"
}

func shownName(x api.Attr) string {
	if x.Space == 5 && x.Name == "xmlns" {
		return "xmlns"
	}
	return map[int]string{3: "xlink:", 4: "xml:", 5: "xmlns:"}[x.Space] + x.Name
}

func randomText(r *rand.Rand) string {
	s := ""
	for range r.Intn(4) {
		s += pick(r, "", "a", "&", "<", ">", `"`, "\u00a0", "\xc2", "\xa0", "\xff", "&lt;", "\n")
	}
	return s
}

// randomThing is a node of a few names, so that names of HTML come in other namespaces too.
func randomThing(r *rand.Rand, depth int) thing {
	if depth == 0 || r.Intn(3) == 0 {
		switch r.Intn(6) {
		case 0:
			return comment(randomText(r))
		case 1:
			return doctype(pick(r, "", "html", "br"), pick(r, "", "p"), pick(r, "", "s"))
		}
		return text(randomText(r))
	}
	x := elem(pick(r, "template", "p", "br", "style", "noscript", "script", "col", "title"), randomThings(r, depth-1)...)
	if r.Intn(3) == 0 {
		x.space = 1 + r.Intn(2)
	}
	for range r.Intn(4) {
		x.attrs = append(x.attrs, api.Attr{Space: r.Intn(7), Prefix: pick(r, "", "xml"), Name: pick(r, "a", "xmlns", "b", ""), Value: randomText(r)})
	}
	if x.isAmong("template") {
		x.inner = randomThings(r, depth-1)
	}
	return x
}

func randomThings(r *rand.Rand, depth int) []thing {
	var l []thing
	for range r.Intn(5) {
		l = append(l, randomThing(r, depth))
	}
	return l
}

func TestInnerAgainstThePlainWay(t *testing.T) {
	for seed := range int64(600) {
		r := rand.New(rand.NewSource(seed))
		x := document(randomThings(r, 5)...)
		switch seed % 4 {
		case 1:
			x = fragment(x.kids...)
		case 2, 3:
			x = randomThing(r, 6)
		}
		for _, make := range []func(maker) int{
			func(m maker) int { return m.make(x) },
			func(m maker) int { return m.back(x) },
		} {
			m := newMaker(t)
			id := make(m)
			checkInner(t, m.Arena, id, false, x.written(false))
			checkInner(t, m.Arena, id, true, x.written(true))
		}
	}
}

// chain links an element below the one ahead of it until the arena is full, and tells how many there are. With a text
// behind each, what follows a close is seen to stand behind it.
func (m maker) chain(x thing, in int, texts bool) int {
	m.t.Helper()
	up, n := 0, 0
	for m.Len() <= maxNodes-3 {
		id := m.one(x)
		m.link(up, id, none)
		if texts {
			m.link(up, m.one(text("&")), none)
		}
		up = id + in
		n++
	}
	return n
}

func TestInnerOfDeepTrees(t *testing.T) {
	for _, x := range []thing{elem("p"), elem("style"), elem("g").in(api.SVG), elem("br").in(api.MathML)} {
		m := newMaker(t)
		n := m.chain(x, 0, false)
		if n < maxNodes-4 {
			t.Fatalf("a chain of %d", n)
		}
		begin, end := "<"+x.name+">", "</"+x.name+">"
		checkInner(t, m.Arena, 0, false, strings.Repeat(begin, n)+strings.Repeat(end, n))
		checkInner(t, m.Arena, n-100, true, strings.Repeat(begin, 100)+strings.Repeat(end, 100))
		checkInner(t, m.Arena, n, true, "")
	}
}

func TestInnerOfDeepTreesWithTexts(t *testing.T) {
	m := newMaker(t)
	n := m.chain(elem("p").with(api.Attr{Name: "a", Value: `"`}), 0, true)
	checkInner(t, m.Arena, 0, false, strings.Repeat(`<p a="&quot;">`, n)+strings.Repeat("</p>&amp;", n))
}

func TestInnerOfDeepTemplates(t *testing.T) {
	m := newMaker(t)
	n := m.chain(template(nil), 1, false)
	if n < maxNodes/2-2 {
		t.Fatalf("a chain of %d", n)
	}
	checkInner(t, m.Arena, 0, false, strings.Repeat("<template>", n)+strings.Repeat("</template>", n))
}

func TestInnerOfWideTrees(t *testing.T) {
	for _, x := range []thing{elem("p"), template(nil), elem("style")} {
		m := newMaker(t)
		up := m.one(x)
		m.link(0, up, none)
		if x.isAmong("template") {
			up++
		}
		var want strings.Builder
		for m.Len() < maxNodes {
			s := strconv.Itoa(m.Len())
			if m.Len()%2 == 0 {
				m.link(up, m.one(text(s)), none)
				want.WriteString(s)
			} else {
				m.link(up, m.one(elem("b").with(api.Attr{Name: "i", Value: s})), none)
				want.WriteString(`<b i="` + s + `"></b>`)
			}
		}
		checkInner(t, m.Arena, 0, false, "<"+x.name+">"+want.String()+"</"+x.name+">")
		checkInner(t, m.Arena, up, false, want.String())
	}
}

func TestInnerOfTextsAtTheLimit(t *testing.T) {
	const parts = maxText / 2
	most, value, data := strings.Repeat("x", maxText), strings.Repeat(`"&`, parts), strings.Repeat("<&", parts)
	x := elem(most, text(data)).with(api.Attr{Space: api.XLink, Name: most, Value: value})
	checkWritten(t, document(x, elem("script", text(data)), comment(data), doctype(most, most, most)),
		"<"+most+" xlink:"+most+`="`+strings.Repeat("&quot;&amp;", parts)+`">`+strings.Repeat("&lt;&amp;", parts)+"</"+most+">"+
			"<script>"+data+"</script><!--"+data+"--><!DOCTYPE "+most+">")
}
