package adjust_test

import (
	"fmt"
	"math/rand"
	"slices"
	"strings"
	"testing"

	"hornbeam/adjust"
	"hornbeam/api"
)

// Namespaces and kinds by the document's numbers: a test leans on no constant that the program reads.
const (
	none   = 0
	mathML = 1
	svg    = 2
	xlink  = 3
	xml    = 4
	xmlns  = 5

	doctype   = 0
	start     = 1
	end       = 2
	comment   = 3
	character = 4
	eof       = 5

	minInt = -1 << 63
	maxInt = 1<<63 - 1
)

// svgElements, svgAttributes and breakers are the chapter's lists, word for word.
var (
	svgElements = list("altGlyph, altGlyphDef, altGlyphItem, animateColor, animateMotion, animateTransform, clipPath, " +
		"feBlend, feColorMatrix, feComponentTransfer, feComposite, feConvolveMatrix, feDiffuseLighting, " +
		"feDisplacementMap, feDistantLight, feDropShadow, feFlood, feFuncA, feFuncB, feFuncG, feFuncR, " +
		"feGaussianBlur, feImage, feMerge, feMergeNode, feMorphology, feOffset, fePointLight, feSpecularLighting, " +
		"feSpotLight, feTile, feTurbulence, foreignObject, glyphRef, linearGradient, radialGradient, textPath")
	svgAttributes = list("attributeName, attributeType, baseFrequency, baseProfile, calcMode, clipPathUnits, " +
		"diffuseConstant, edgeMode, filterUnits, glyphRef, gradientTransform, gradientUnits, kernelMatrix, " +
		"kernelUnitLength, keyPoints, keySplines, keyTimes, lengthAdjust, limitingConeAngle, markerHeight, " +
		"markerUnits, markerWidth, maskContentUnits, maskUnits, numOctaves, pathLength, patternContentUnits, " +
		"patternTransform, patternUnits, pointsAtX, pointsAtY, pointsAtZ, preserveAlpha, preserveAspectRatio, " +
		"primitiveUnits, refX, refY, repeatCount, repeatDur, requiredExtensions, requiredFeatures, specularConstant, " +
		"specularExponent, spreadMethod, startOffset, stdDeviation, stitchTiles, surfaceScale, systemLanguage, " +
		"tableValues, targetX, targetY, textLength, viewBox, viewTarget, xChannelSelector, yChannelSelector, zoomAndPan")
	breakers = list("b, big, blockquote, body, br, center, code, dd, div, dl, dt, em, embed, h1, h2, h3, h4, h5, h6, head, " +
		"hr, i, img, li, listing, menu, meta, nobr, ol, p, pre, ruby, s, small, span, strong, strike, sub, sup, table, " +
		"tt, u, ul, var")
	xlinks = list("actuate, arcrole, href, role, show, title, type")
)

// odds are numbers of namespaces that there are none of.
var odds = []int{-1, 6, 7, 256, 257, 258, 1 << 32, 1<<32 + 1, 1<<32 + 2, minInt, minInt + 1, maxInt}

func list(s string) []string { return strings.Split(s, ", ") }

// spaces are all numbers of namespaces but HTML's, those that there are none of among them.
func spaces() []int { return slices.Concat([]int{mathML, svg, xlink, xml, xmlns}, odds) }

// lower is a text with A to Z as a to z, upper the other way round, other bytes as they are.
func lower(s string) string { return shift(s, 65, 90, 32) }

func upper(s string) string { return shift(s, 97, 122, 224) }

func shift(s string, from, to, by byte) string {
	b := []byte(s)
	for i, c := range b {
		if c >= from && c <= to {
			b[i] = c + by
		}
	}
	return string(b)
}

// mixed is a text with its letters large and small by turns.
func mixed(s string) string {
	b := []byte(lower(s))
	for i := 0; i < len(b); i += 2 {
		b[i] = upper(string(b[i : i+1]))[0]
	}
	return string(b)
}

// near are texts that a text might be taken for: one sign more, less, or another, letters of other sizes, and letters
// beyond a to z that other ways would make a to z.
func near(s string) []string {
	out := []string{"", s + s, s + " ", " " + s, s + "\x00", "\x00" + s, s + "\xff", "\xff" + s, s + "é", s + "a", "a" + s, s + ":", ":" + s,
		strings.NewReplacer("s", "\u017f", "k", "\u212a", "i", "\u0130").Replace(s)}
	for i := range len(s) {
		out = append(out, s[:i]+s[i+1:], s[:i])
		for _, c := range []byte{s[i] ^ 32, s[i] ^ 128, s[i] + 1, s[i] - 1, 0, 255, ' '} {
			out = append(out, s[:i]+string([]byte{c})+s[i+1:])
		}
		out = append(out, s[:i]+string(rune(0xfee0)+rune(s[i]))+s[i+1:], s[:i]+string(rune(256)+rune(s[i]))+s[i+1:])
	}
	return slices.DeleteFunc(out, func(x string) bool { return x == s })
}

// changed is a text as it is, or with a piece of it changed.
func changed(r *rand.Rand, s string) string {
	if s == "" {
		return s
	}
	at := r.Intn(len(s))
	switch r.Intn(8) {
	case 0:
		return upper(s)
	case 1:
		return s[:at] + string([]byte{byte(r.Intn(256))}) + s[at+1:]
	case 2:
		return s[:at] + s[at+1:]
	case 3:
		return upper(s[:at]) + s[at:]
	case 4:
		return lower(s)
	}
	return s
}

// properly is the name of a list that is name, when it is made small.
func properly(names []string, name string) string {
	for _, x := range names {
		if lower(x) == name {
			return x
		}
	}
	return name
}

// plainSVG, plainMathML and plainForeign are the promise, for one attribute.
func plainSVG(a api.Attr) api.Attr {
	if a.Space != none {
		return a
	}
	return api.Attr{Prefix: a.Prefix, Name: properly(svgAttributes, a.Name), Value: a.Value}
}

func plainMathML(a api.Attr) api.Attr {
	if a.Space == none && a.Name == "definitionurl" {
		a.Name = "definitionURL"
	}
	return a
}

func plainForeign(a api.Attr) api.Attr {
	if a.Space != none {
		return a
	}
	prefix, name, _ := strings.Cut(a.Name, ":")
	switch {
	case prefix == "xlink" && slices.Contains(xlinks, name):
		return api.Attr{Space: xlink, Prefix: prefix, Name: name, Value: a.Value}
	case a.Name == "xml:lang", a.Name == "xml:space":
		return api.Attr{Space: xml, Prefix: prefix, Name: name, Value: a.Value}
	case a.Name == "xmlns":
		return api.Attr{Space: xmlns, Name: "xmlns", Value: a.Value}
	case a.Name == "xmlns:xlink":
		return api.Attr{Space: xmlns, Prefix: "xmlns", Name: "xlink", Value: a.Value}
	}
	return a
}

// way is a call on a list of attributes, with the promise for one of them.
type way struct {
	name  string
	call  func([]api.Attr) []api.Attr
	plain func(api.Attr) api.Attr
}

var ways = []way{
	{"SVG", adjust.SVG, plainSVG},
	{"MathML", adjust.MathML, plainMathML},
	{"Foreign", adjust.Foreign, plainForeign},
}

// told is a list of attributes as it may stand in a test's message.
func told(l []api.Attr) string {
	if len(l) > 6 {
		return told(l[:6]) + fmt.Sprintf(" and %d more", len(l)-6)
	}
	var out []string
	for _, a := range l {
		out = append(out, fmt.Sprintf("(%d %.40q %.40q %.40q)", a.Space, a.Prefix, a.Name, a.Value))
	}
	return "[" + strings.Join(out, " ") + "]"
}

// asPlain holds each call on a list against the promise for each of its attributes, at once and twice; the list stays.
func asPlain(t *testing.T, l []api.Attr) {
	t.Helper()
	before := slices.Clone(l)
	for _, w := range ways {
		var want []api.Attr
		for _, a := range before {
			want = append(want, w.plain(a))
		}
		got := w.call(l)
		if !slices.Equal(got, want) {
			t.Errorf("%s(%s): %s; want %s", w.name, told(l), told(got), told(want))
		}
		if again := w.call(got); !slices.Equal(again, want) {
			t.Errorf("%s twice of %s: %s; want %s", w.name, told(l), told(again), told(want))
		}
		if !slices.Equal(l, before) {
			t.Fatalf("%s changed the list %s: %s", w.name, told(before), told(l))
		}
	}
}

// isMade asks what a call makes of one attribute.
func isMade(t *testing.T, call func([]api.Attr) []api.Attr, a, want api.Attr) {
	t.Helper()
	if got := call([]api.Attr{a}); len(got) != 1 || got[0] != want {
		t.Errorf("of %s: %s; want %s", told([]api.Attr{a}), told(got), told([]api.Attr{want}))
	}
}

func isElement(t *testing.T, name, want string) {
	t.Helper()
	if got := adjust.Element(name); got != want {
		t.Errorf("Element(%.80q): %.80q; want %.80q", name, got, want)
	}
}

func isTextPoint(t *testing.T, space int, name string, want bool) {
	t.Helper()
	if got := adjust.TextPoint(space, name); got != want {
		t.Errorf("TextPoint(%d, %.80q): %v; want %v", space, name, got, want)
	}
}

func isHTMLPoint(t *testing.T, space int, name string, l []api.Attr, want bool) {
	t.Helper()
	if got := adjust.HTMLPoint(space, name, l); got != want {
		t.Errorf("HTMLPoint(%d, %.80q, %s): %v; want %v", space, name, told(l), got, want)
	}
}

func breaks(t *testing.T, x api.Token, want bool) {
	t.Helper()
	if got := adjust.Breaks(x); got != want {
		t.Errorf("Breaks(kind %d, %.80q, %s): %v; want %v", x.Kind, x.Name, told(x.Attrs), got, want)
	}
}

// tag is a token of a kind, with attributes of these names.
func tag(kind int, name string, attrs ...string) api.Token {
	x := api.Token{Kind: kind, Name: name}
	for _, s := range attrs {
		x.Attrs = append(x.Attrs, api.Attr{Name: s, Value: "v"})
	}
	return x
}

// encoding is an attribute of that name.
func encoding(space int, value string) api.Attr {
	return api.Attr{Space: space, Name: "encoding", Value: value}
}
