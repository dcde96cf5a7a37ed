package adjust_test

import (
	"slices"
	"strings"
	"testing"

	"hornbeam/api"
)

const (
	html  = "text/html"
	xhtml = "application/xhtml+xml"
)

var (
	mathTexts = []string{"mi", "mo", "mn", "ms", "mtext"}
	svgPoints = []string{"foreignObject", "desc", "title"}
)

// P11.2: each text point of MathML, and those names in other namespaces.
func TestTextPoints(t *testing.T) {
	for _, s := range mathTexts {
		isTextPoint(t, mathML, s, true)
		isHTMLPoint(t, mathML, s, nil, false)
		isHTMLPoint(t, svg, s, nil, false)
		for _, space := range slices.Concat([]int{none, svg, xlink, xml, xmlns}, odds) {
			isTextPoint(t, space, s, false)
		}
		for _, x := range near(s) {
			isTextPoint(t, mathML, x, slices.Contains(mathTexts, x))
		}
	}
}

// P11.2: names of MathML and of others that are no text points.
func TestTextPointsOfOtherNames(t *testing.T) {
	for _, space := range slices.Concat([]int{none}, spaces()) {
		for _, s := range []string{"", "m", "math", "mglyph", "malignmark", "annotation-xml", "mtable", "mrow", "mtex", "mtexts", "MI", "Mi", "mI", "MTEXT",
			"text", "svg", "desc", "title", "foreignObject", "p", "m\u0131", "m\u0130", "m\u017f", "\xff", "mi\xff"} {
			isTextPoint(t, space, s, false)
		}
	}
}

// P11.2: each HTML point of SVG, with any attributes, and those names in other namespaces.
func TestHTMLPointsOfSVG(t *testing.T) {
	lists := [][]api.Attr{nil, {}, {encoding(none, html)}, {encoding(none, "x")}, {{Name: "x"}}}
	for _, s := range svgPoints {
		for _, l := range lists {
			isHTMLPoint(t, svg, s, l, true)
			for _, space := range slices.Concat([]int{none, mathML, xlink, xml, xmlns}, odds) {
				isHTMLPoint(t, space, s, l, false)
			}
			for _, x := range near(s) {
				isHTMLPoint(t, svg, x, l, slices.Contains(svgPoints, x))
			}
			isTextPoint(t, svg, s, false)
		}
	}
	for _, s := range []string{"", "svg", "g", "foreignobject", "FOREIGNOBJECT", "foreignObjects", "Title", "TITLE", "Desc", "DESC", "annotation-xml", "mi", "mtext", "d\u0117sc", "de\u017fc"} {
		isHTMLPoint(t, svg, s, []api.Attr{encoding(none, html)}, false)
	}
}

// P11.2: annotation-xml of MathML with one of the two values, in letters of any size.
func TestHTMLPointOfMathML(t *testing.T) {
	for _, value := range []string{html, xhtml} {
		for _, s := range []string{value, upper(value), mixed(value), value[:3] + upper(value[3:])} {
			isHTMLPoint(t, mathML, "annotation-xml", []api.Attr{encoding(none, s)}, true)
			isHTMLPoint(t, mathML, "annotation-xml", []api.Attr{{Name: "x", Value: "y"}, encoding(none, s), {Name: "z"}}, true)
			isHTMLPoint(t, mathML, "annotation-xml", []api.Attr{{Prefix: "p", Name: "encoding", Value: s}}, true)
		}
		for i := range len(value) {
			s := value[:i] + upper(value[i:i+1]) + value[i+1:]
			isHTMLPoint(t, mathML, "annotation-xml", []api.Attr{encoding(none, s)}, true)
		}
		for _, s := range near(value) {
			isHTMLPoint(t, mathML, "annotation-xml", []api.Attr{encoding(none, s)}, lower(s) == value)
		}
	}
	for _, s := range []string{"", "text", "/", "text/xml", "text/xhtml+xml", "application/html", "application/xml", "image/svg+xml", "text/html;charset=utf-8",
		"text/html,application/xhtml+xml", "MathML-Content", "appl\u0130cation/xhtml+xml", "appl\u0131cation/xhtml+xml", "ｔｅｘｔ/ｈｔｍｌ", "te\u00d7t/html",
		"\xff\xff\xff\xff\xff\xff\xff\xff\xff", "text\x0fhtml", "applicat\u0130n/xhtml+xml", strings.Repeat("text/html", 1<<16)} {
		isHTMLPoint(t, mathML, "annotation-xml", []api.Attr{encoding(none, s)}, false)
	}
}

// P11.2: the attribute by its name as it is, and without a namespace.
func TestHTMLPointByTheAttribute(t *testing.T) {
	point := func(want bool, l ...api.Attr) {
		t.Helper()
		isHTMLPoint(t, mathML, "annotation-xml", l, want)
	}
	point(false)
	point(false, api.Attr{Name: "x"})
	for _, s := range near("encoding") {
		point(false, api.Attr{Name: s, Value: html})
		point(true, api.Attr{Name: s, Value: "x"}, encoding(none, html))
	}
	for _, space := range spaces() {
		point(false, encoding(space, html))
		point(true, encoding(space, "x"), encoding(none, html))
		point(false, encoding(space, html), encoding(none, "x"))
		point(true, encoding(none, html), encoding(space, "x"))
		point(false, encoding(none, "x"), encoding(space, html))
	}
}

// P11.2: of two the first counts.
func TestHTMLPointByTheFirst(t *testing.T) {
	values := []string{html, xhtml, "TEXT/HTML", "x", ""}
	for i, first := range values {
		for _, second := range values {
			l := []api.Attr{{Name: "a"}, encoding(none, first), {Name: "b"}, encoding(none, second)}
			isHTMLPoint(t, mathML, "annotation-xml", l, i < 3)
			if l[1] != encoding(none, first) || l[3] != encoding(none, second) {
				t.Fatal("the list has changed")
			}
		}
	}
}

// P11.2: the attribute makes no other element an HTML point, nor that one in another namespace.
func TestHTMLPointByTheName(t *testing.T) {
	l := []api.Attr{encoding(none, html)}
	for _, s := range slices.Concat(near("annotation-xml"), []string{"annotation", "math", "mi", "semantics", "ANNOTATION-XML", "Annotation-Xml", "svg", "p", "title", "desc"}) {
		isHTMLPoint(t, mathML, s, l, false)
	}
	for _, space := range slices.Concat([]int{none, svg, xlink, xml, xmlns}, odds) {
		isHTMLPoint(t, space, "annotation-xml", l, false)
	}
	isTextPoint(t, mathML, "annotation-xml", false)
}
