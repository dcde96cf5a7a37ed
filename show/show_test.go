package show_test

import (
	"math/rand"
	"slices"
	"strconv"
	"strings"
	"testing"

	"hornbeam/api"
	"hornbeam/show"
)

// P3.1

func TestShowOfTheExample(t *testing.T) {
	checkShown(t, document(elem("html", text("a"))), `| <html>`, `|   "a"`)
}

func TestShowOfNothingBelow(t *testing.T) {
	for _, x := range []thing{document(), fragment(), text("a"), comment("a"), doctype("a", "b", "c"), elem("p"), template(nil),
		elem("p").with(api.Attr{Name: "a"}), elem("svg").in(api.SVG)} {
		checkShown(t, x)
	}
}

func TestShowOfEachKind(t *testing.T) {
	checkShown(t, fragment(elem("p"), text("a"), comment("b"), doctype("c", "", ""), template(nil)),
		`| <p>`, `| "a"`, `| <!-- b -->`, `| <!DOCTYPE c>`, `| <template>`, `|   content`)
	checkShown(t, elem("p", elem(""), text(""), comment(""), doctype("", "", "")), `| <>`, `| ""`, `| <!--  -->`, `| <!DOCTYPE >`)
}

func TestShowOfDepths(t *testing.T) {
	checkShown(t, document(elem("a", elem("b", elem("c"), text("d")), elem("e", text("f"))), comment("g")),
		`| <a>`, `|   <b>`, `|     <c>`, `|     "d"`, `|   <e>`, `|     "f"`, `| <!-- g -->`)
}

func TestShowOfWhatIsBelowAlone(t *testing.T) { // neither what is above id, nor its neighbours, nor its attributes
	m := newMaker(t)
	m.make(document(elem("html", text("ahead"), elem("p", elem("b", text("in"))).with(api.Attr{Name: "a"}), text("behind"))))
	checkShow(t, m.Arena, 3, joined([]string{`| <b>`, `|   "in"`}))
	checkShow(t, m.Arena, 4, joined([]string{`| "in"`}))
	checkShow(t, m.Arena, 5, "")
	m.Unlink(3)
	checkShow(t, m.Arena, 3, joined([]string{`| <b>`, `|   "in"`}))
	checkShow(t, m.Arena, 0, joined([]string{`| <html>`, `|   "ahead"`, `|   "behind"`}))
}

func TestShowOfNamespaces(t *testing.T) {
	checkShown(t, document(elem("a").in(api.HTML), elem("a").in(api.MathML), elem("a").in(api.SVG)), `| <a>`, `| <math a>`, `| <svg a>`)
	checkShown(t, document(elem("math").in(api.MathML), elem("svg", elem("foreignObject").in(api.SVG)).in(api.SVG)),
		`| <math math>`, `| <svg svg>`, `|   <svg foreignObject>`)
}

func TestShowOfAttributes(t *testing.T) {
	x := elem("p", text("t")).with(
		api.Attr{Name: "b", Value: "1"},
		api.Attr{Space: api.XMLNS, Prefix: "xmlns", Name: "xlink", Value: "2"},
		api.Attr{Space: api.XML, Prefix: "xml", Name: "lang", Value: "3"},
		api.Attr{Space: api.XLink, Prefix: "xlink", Name: "href", Value: "4"},
		api.Attr{Prefix: "y", Name: "a"})
	lines := []string{`| <p>`, `|   a=""`, `|   b="1"`, `|   xlink href="4"`, `|   xml lang="3"`, `|   xmlns xlink="2"`, `|   "t"`}
	checkShown(t, document(x), lines...)
	for _, space := range []int{api.MathML, api.SVG} {
		lines[0] = []string{"", `| <math p>`, `| <svg p>`}[space]
		checkShown(t, document(x.in(space)), lines...)
	}
}

func TestShowOfAttributesOfOtherNamespaces(t *testing.T) { // layer 1 keeps them; the chapter has no word for them
	x := elem("p")
	var lines []string
	for _, space := range []int{api.HTML, api.MathML, api.SVG, 6, -1, 1<<63 - 1, -1 << 63} {
		x.attrs = append(x.attrs, api.Attr{Space: space, Name: "a", Value: strconv.Itoa(space)})
		lines = append(lines, `|   a="`+strconv.Itoa(space)+`"`)
	}
	checkShown(t, document(x), append([]string{`| <p>`}, lines...)...)
}

func TestShowOfAttributesOfTheSameShownName(t *testing.T) {
	for _, word := range []struct {
		space int
		word  string
	}{{api.XLink, "xlink "}, {api.XML, "xml "}, {api.XMLNS, "xmlns "}, {api.HTML, ""}} {
		plain, other := api.Attr{Name: word.word + "a", Value: "plain"}, api.Attr{Space: word.space, Name: "a", Value: "other"}
		shown := `|   ` + word.word + `a=`
		checkShown(t, document(elem("p").with(plain, other)), `| <p>`, shown+`"plain"`, shown+`"other"`)
		checkShown(t, document(elem("p").with(other, plain)), `| <p>`, shown+`"other"`, shown+`"plain"`)
	}
}

func TestShowKeepsTheOrderOfManyOfTheSameName(t *testing.T) { // so many that a sort that is not stable would turn them
	x := elem("p")
	want := []string{`| <p>`}
	for i := range maxAttrs {
		x.attrs = append(x.attrs, api.Attr{Name: []string{"b", "a"}[i%2], Value: strconv.Itoa(i)})
	}
	for _, name := range []string{"a", "b"} {
		for _, attr := range x.attrs {
			if attr.Name == name {
				want = append(want, `|   `+name+`="`+attr.Value+`"`)
			}
		}
	}
	checkShown(t, document(x), want...)
}

func TestShowOrdersNamesByteByByte(t *testing.T) {
	names := []string{"", "\x00", " ", "-", "0", "10", "9", "A", "B", "Z", "_", "a", "a ", "a-", "aB", "aa", "ab", "b", "z", "~", "\x7f", "\x80", "\u00e4", "\uffff", "\U00010000", "\xff"}
	want := []string{`| <p>`}
	x := elem("p")
	for _, name := range names {
		want = append(want, `|   `+name+`=""`)
		x.attrs = append(x.attrs, api.Attr{Name: name})
	}
	slices.Reverse(x.attrs)
	checkShown(t, document(x), want...)
	rand.New(rand.NewSource(1)).Shuffle(len(x.attrs), func(i, j int) { x.attrs[i], x.attrs[j] = x.attrs[j], x.attrs[i] })
	checkShown(t, document(x), want...)
}

func TestShowOrdersByTheShownName(t *testing.T) { // the namespace's word is part of it
	checkShown(t, document(elem("p").with(
		api.Attr{Space: api.XMLNS, Name: "a"}, api.Attr{Space: api.XML, Name: "b"}, api.Attr{Space: api.XLink, Name: "c"},
		api.Attr{Name: "xml"}, api.Attr{Name: "xlinks"}, api.Attr{Name: "xml-"}, api.Attr{Name: "w"}, api.Attr{Name: "y"})),
		`| <p>`, `|   w=""`, `|   xlink c=""`, `|   xlinks=""`, `|   xml=""`, `|   xml b=""`, `|   xml-=""`, `|   xmlns a=""`, `|   y=""`)
}

func TestShowOfTemplates(t *testing.T) {
	checkShown(t, document(template([]thing{text("in"), elem("b", text("deep"))}, text("kid"), elem("i")).with(api.Attr{Name: "x"}), text("next")),
		`| <template>`, `|   x=""`, `|   content`, `|     "in"`, `|     <b>`, `|       "deep"`, `|   "kid"`, `|   <i>`, `| "next"`)
	checkShown(t, document(template(nil, text("kid"))), `| <template>`, `|   content`, `|   "kid"`)
	checkShown(t, document(elem("p", template([]thing{template([]thing{text("a")}, text("b")), text("c")}, template(nil)))),
		`| <p>`, `|   <template>`, `|     content`, `|       <template>`, `|         content`, `|           "a"`, `|         "b"`, `|       "c"`,
		`|     <template>`, `|       content`)
}

func TestShowOfNoTemplates(t *testing.T) {
	checkShown(t, document(elem("template").in(api.SVG), elem("template").in(api.MathML), elem("Template")),
		`| <svg template>`, `| <math template>`, `| <Template>`)
}

func TestShowOfATemplateAsID(t *testing.T) { // the line content is part of what is told of a node below id
	m := newMaker(t)
	id := m.make(template([]thing{text("in")}, text("kid")))
	checkShow(t, m.Arena, id, joined([]string{`| "kid"`}))
	checkShow(t, m.Arena, id+1, joined([]string{`| "in"`}))
}

func TestShowOfAFragmentAsID(t *testing.T) {
	checkShown(t, fragment(text("a"), elem("b", text("c"))), `| "a"`, `| <b>`, `|   "c"`)
}

func TestShowOfDoctypes(t *testing.T) {
	checkShown(t, document(doctype("html", "", ""), doctype("html", "p", ""), doctype("html", "", "s"), doctype("", "p", "s")),
		`| <!DOCTYPE html>`, `| <!DOCTYPE html "p" "">`, `| <!DOCTYPE html "" "s">`, `| <!DOCTYPE  "p" "s">`)
}

func TestShowKeepsBytes(t *testing.T) {
	const odd = "\x00\"\n| <b>\r\t\\-->&amp;\xff\xc0\u00e4\U0001f600"
	checkShown(t, document(text(odd), comment(odd), doctype(odd, odd, odd), elem(odd).with(api.Attr{Name: odd, Value: odd})),
		`| "`+odd+`"`, `| <!-- `+odd+` -->`, `| <!DOCTYPE `+odd+` "`+odd+`" "`+odd+`">`, `| <`+odd+`>`, `|   `+odd+`="`+odd+`"`)
}

func TestShowAtTheLimits(t *testing.T) {
	most := strings.Repeat("x", maxText)
	x := elem(most).with(api.Attr{Space: api.XLink, Name: most, Value: most})
	checkShown(t, document(x, text(most), comment(most), doctype(most, most, most)),
		`| <`+most+`>`, `|   xlink `+most+`="`+most+`"`, `| "`+most+`"`, `| <!-- `+most+` -->`, `| <!DOCTYPE `+most+` "`+most+`" "`+most+`">`)
}

func TestShowOfNoNode(t *testing.T) {
	m := newMaker(t)
	m.make(document(elem("p", text("a"))))
	for _, id := range append(outside, m.Len()) {
		if s, e := show.Show(m.Arena, id); s != "" || e != api.ErrNone {
			t.Errorf("Show(%d): %q, %d", id, s, e)
		}
	}
}

func TestShowChangesNothing(t *testing.T) {
	m := newMaker(t)
	m.make(document(elem("p", template([]thing{text("a")})).with(api.Attr{Name: "b"}, api.Attr{Name: "a"})))
	was := all(m.Arena)
	for range 2 {
		checkShow(t, m.Arena, 0, joined([]string{`| <p>`, `|   a=""`, `|   b=""`, `|   <template>`, `|     content`, `|       "a"`}))
	}
	checkSame(t, m.Arena, was)
}

func TestShowOfDeepTrees(t *testing.T) {
	const deep = 6000
	m := newMaker(t)
	var want strings.Builder
	up := 0
	for i := range deep {
		id := m.one(elem("p"))
		m.link(up, id, none)
		up = id
		want.WriteString("| " + strings.Repeat(" ", 2*i) + "<p>\n")
	}
	checkShow(t, m.Arena, 0, want.String())
	for m.Len() < maxNodes {
		id := m.one(elem("p"))
		m.link(up, id, none)
		up = id
	}
	checkShow(t, m.Arena, maxNodes-1, "")
	checkShow(t, m.Arena, maxNodes-1-deep, want.String())
}

func TestShowOfDeepTemplates(t *testing.T) {
	m := newMaker(t)
	var want strings.Builder
	in := 0
	for i := range 2000 {
		id := m.one(template(nil))
		m.link(in, id, none)
		in = id + 1
		blanks := strings.Repeat(" ", 4*i)
		want.WriteString("| " + blanks + "<template>\n| " + blanks + "  content\n")
	}
	checkShow(t, m.Arena, 0, want.String())
}

func TestShowOfWideTrees(t *testing.T) {
	m := newMaker(t)
	up := m.one(elem("p"))
	m.link(0, up, none)
	want := []string{`| <p>`}
	for m.Len() < maxNodes {
		s := strconv.Itoa(m.Len())
		m.link(up, m.one(text(s)), none)
		want = append(want, `|   "`+s+`"`)
	}
	checkShow(t, m.Arena, 0, joined(want))
}

// lines tells a thing's lines by the chapter's words, the plain way: by calls within calls.
func (x thing) lines(depth int) []string {
	var l []string
	for _, kid := range x.kids {
		l = append(l, kid.ownLines(depth)...)
		l = append(l, kid.lines(depth+1)...)
	}
	return l
}

func (x thing) ownLines(depth int) []string {
	begin := "| " + strings.Repeat("  ", depth)
	switch x.kind {
	case api.KText:
		return []string{begin + `"` + x.data + `"`}
	case api.KComment:
		return []string{begin + "<!-- " + x.data + " -->"}
	case api.KDoctype:
		if x.data+x.system == "" {
			return []string{begin + "<!DOCTYPE " + x.name + ">"}
		}
		return []string{begin + "<!DOCTYPE " + x.name + ` "` + x.data + `" "` + x.system + `">`}
	}
	l := []string{begin + "<" + []string{"", "math ", "svg "}[x.space] + x.name + ">"}
	for _, attr := range ordered(x.attrs) {
		l = append(l, begin+"  "+attr[0]+`="`+attr[1]+`"`)
	}
	if x.isTemplate() {
		l = append(l, begin+"  content")
		l = append(l, fragment(x.inner...).lines(depth+2)...)
	}
	return l
}

// ordered are shown names and values, each put behind those that are not greater.
func ordered(attrs []api.Attr) [][2]string {
	var l [][2]string
	for _, x := range attrs {
		name := x.Name
		if x.Space >= 3 && x.Space <= 5 {
			name = []string{"xlink ", "xml ", "xmlns "}[x.Space-3] + name
		}
		at := len(l)
		for at > 0 && l[at-1][0] > name {
			at--
		}
		l = slices.Insert(l, at, [2]string{name, x.Value})
	}
	return l
}

func TestShowAgainstThePlainWay(t *testing.T) {
	for seed := range int64(300) {
		r := rand.New(rand.NewSource(seed))
		x := document(randomThings(r, 5)...)
		checkShown(t, x, x.lines(0)...)
	}
}
