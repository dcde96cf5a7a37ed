package adjust_test

import (
	"math/rand"
	"slices"
	"strings"
	"testing"

	"hornbeam/adjust"
	"hornbeam/api"
)

// P11.1: the chapter's example, and each name of SVG's elements.
func TestElementOfEachName(t *testing.T) {
	isElement(t, "lineargradient", "linearGradient")
	isElement(t, "foreignobject", "foreignObject")
	isElement(t, "fefunca", "feFuncA")
	isElement(t, "textpath", "textPath")
	for _, x := range svgElements {
		isElement(t, lower(x), x)
	}
	if len(svgElements) != 37 || len(svgAttributes) != 58 || len(breakers) != 44 {
		t.Errorf("%d elements, %d attributes, %d breakers", len(svgElements), len(svgAttributes), len(breakers))
	}
}

// P11.1: names that are in no list stay.
func TestElementOfOtherNames(t *testing.T) {
	for _, s := range []string{"", "a", "g", "svg", "path", "title", "desc", "text", "textpat", "textpaths", "math", "definitionurl", "viewbox",
		"attributename", "html", "fe", "fefunc", "fefuncc", "svg:clippath", "clip-path", " clippath", "clippath ", "\x00", "\xff", "clippath\xff",
		"\xc3", "é", "c\u217fippath", "te\u00d7tpath"} {
		isElement(t, s, s)
	}
}

// P11.1: a name is what one of the list is in small letters, and no other: one with large letters stays.
func TestElementOfNamesWithLargeLetters(t *testing.T) {
	for _, x := range svgElements {
		isElement(t, x, x)
		isElement(t, upper(x), upper(x))
		isElement(t, mixed(x), mixed(x))
		isElement(t, upper(x[:1])+lower(x[1:]), upper(x[:1])+lower(x[1:]))
		for i := range x {
			part := lower(x[:i]) + upper(x[i:i+1]) + lower(x[i+1:])
			isElement(t, part, part)
		}
	}
}

// P11.1: what is nearly a name is none; letters beyond a to z are no small ones.
func TestElementOfNearlyNames(t *testing.T) {
	for _, x := range svgElements {
		for _, s := range near(lower(x)) {
			isElement(t, s, properly(svgElements, s))
		}
	}
	for _, s := range []string{"fe\u017fpotlight", "fetile\u0130", "linear\u01e4radient", "fe\u0130mage", "linear\u212aradient", "feimage\u0307",
		"ｃｌｉｐｐａｔｈ", "feof\ufb00set", "feti\u013fe"} {
		isElement(t, s, s)
	}
}

// P11.1: each name of SVG's attributes, without a namespace.
func TestSVGOfEachName(t *testing.T) {
	isMade(t, adjust.SVG, api.Attr{Name: "viewbox", Value: "0 0 1 1"}, api.Attr{Name: "viewBox", Value: "0 0 1 1"})
	isMade(t, adjust.SVG, api.Attr{Name: "attributename", Value: "X"}, api.Attr{Name: "attributeName", Value: "X"})
	isMade(t, adjust.SVG, api.Attr{Name: "zoomandpan"}, api.Attr{Name: "zoomAndPan"})
	for _, x := range svgAttributes {
		isMade(t, adjust.SVG, api.Attr{Name: lower(x), Value: lower(x)}, api.Attr{Name: x, Value: lower(x)})
	}
}

// P11.1: elements' names are no attributes', nor the other way round, but for the one that is both.
func TestSVGAndElementAreTwoLists(t *testing.T) {
	isElement(t, "glyphref", "glyphRef")
	isMade(t, adjust.SVG, api.Attr{Name: "glyphref"}, api.Attr{Name: "glyphRef"})
	for _, x := range svgElements {
		if x != "glyphRef" {
			isMade(t, adjust.SVG, api.Attr{Name: lower(x)}, api.Attr{Name: lower(x)})
		}
	}
	for _, x := range svgAttributes {
		if x != "glyphRef" {
			isElement(t, lower(x), lower(x))
		}
	}
}

// P11.1: names that are in no list stay, those of the other calls among them.
func TestSVGOfOtherNames(t *testing.T) {
	for _, s := range []string{"", "x", "id", "viewboxes", "viewbo", "definitionurl", "xlink:href", "xmlns", "xml:lang", "\xff", "viewbox\xff", "svg:viewbox"} {
		isMade(t, adjust.SVG, api.Attr{Name: s, Value: "viewbox"}, api.Attr{Name: s, Value: "viewbox"})
	}
	for _, x := range svgAttributes {
		for _, s := range slices.Concat(near(lower(x)), []string{x, upper(x), mixed(x)}) {
			isMade(t, adjust.SVG, api.Attr{Name: s}, api.Attr{Name: properly(svgAttributes, s)})
		}
	}
}

// P11.1: one that has a namespace stays, whatever its name; a prefix is no namespace, and stays.
func TestSVGOfAttributesWithANamespace(t *testing.T) {
	for _, space := range spaces() {
		for _, x := range svgAttributes {
			a := api.Attr{Space: space, Prefix: "p", Name: lower(x), Value: "v"}
			isMade(t, adjust.SVG, a, a)
		}
	}
	isMade(t, adjust.SVG, api.Attr{Prefix: "viewbox", Name: "viewbox"}, api.Attr{Prefix: "viewbox", Name: "viewBox"})
}

// P11.1: definitionurl alone, without a namespace.
func TestMathML(t *testing.T) {
	isMade(t, adjust.MathML, api.Attr{Name: "definitionurl", Value: "definitionurl"}, api.Attr{Name: "definitionURL", Value: "definitionurl"})
	isMade(t, adjust.MathML, api.Attr{Prefix: "m", Name: "definitionurl"}, api.Attr{Prefix: "m", Name: "definitionURL"})
	for _, s := range near("definitionurl") {
		isMade(t, adjust.MathML, api.Attr{Name: s, Value: "v"}, api.Attr{Name: s, Value: "v"})
	}
	for _, s := range []string{"definitionURL", "DEFINITIONURL", "definitionUrl", "DefinitionURL", "encoding", "viewbox", "xmlns", "xlink:href", "def\u0130nitionurl"} {
		isMade(t, adjust.MathML, api.Attr{Name: s}, api.Attr{Name: s})
	}
	for _, space := range spaces() {
		a := api.Attr{Space: space, Prefix: "p", Name: "definitionurl", Value: "v"}
		isMade(t, adjust.MathML, a, a)
	}
}

// P11.3: a name that was adjusted stays.
func TestElementTwice(t *testing.T) {
	for _, x := range slices.Concat(svgElements, svgAttributes, breakers) {
		for _, s := range []string{x, lower(x), upper(x), mixed(x)} {
			once := adjust.Element(s)
			isElement(t, once, once)
		}
	}
}

// P11.1, P11.3: names with signs put in, taken out and changed.
func TestElementOfManyNames(t *testing.T) {
	r := rand.New(rand.NewSource(11))
	names := slices.Concat(svgElements, svgAttributes)
	for range 100000 {
		s := changed(r, lower(names[r.Intn(len(names))]))
		isElement(t, s, properly(svgElements, s))
		isElement(t, adjust.Element(s), properly(svgElements, s))
	}
}

// P1: long names end.
func TestLongNames(t *testing.T) {
	long := strings.Repeat("lineargradient", 1<<16)
	isElement(t, long, long)
	isElement(t, strings.Repeat("\xff", 1<<20), strings.Repeat("\xff", 1<<20))
	asPlain(t, []api.Attr{{Name: long, Value: long}, {Name: "viewbox", Value: long}})
}
