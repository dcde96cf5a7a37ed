package adjust

import (
	"hornbeam/api"
)

// spaced are the names, as a page has them, that tell of a namespace.
var spaced = [...]struct {
	from   string
	space  int
	prefix string
	name   string
}{
	{"xlink:actuate", api.XLink, "xlink", "actuate"},
	{"xlink:arcrole", api.XLink, "xlink", "arcrole"},
	{"xlink:href", api.XLink, "xlink", "href"},
	{"xlink:role", api.XLink, "xlink", "role"},
	{"xlink:show", api.XLink, "xlink", "show"},
	{"xlink:title", api.XLink, "xlink", "title"},
	{"xlink:type", api.XLink, "xlink", "type"},
	{"xml:lang", api.XML, "xml", "lang"},
	{"xml:space", api.XML, "xml", "space"},
	{"xmlns", api.XMLNS, "", "xmlns"},
	{"xmlns:xlink", api.XMLNS, "xmlns", "xlink"},
}

// elements are SVG's elements whose names have large letters.
func elements() []string {
	return []string{
		"altGlyph", "altGlyphDef", "altGlyphItem", "animateColor", "animateMotion", "animateTransform", "clipPath",
		"feBlend", "feColorMatrix", "feComponentTransfer", "feComposite", "feConvolveMatrix", "feDiffuseLighting",
		"feDisplacementMap", "feDistantLight", "feDropShadow", "feFlood", "feFuncA", "feFuncB", "feFuncG", "feFuncR",
		"feGaussianBlur", "feImage", "feMerge", "feMergeNode", "feMorphology", "feOffset", "fePointLight",
		"feSpecularLighting", "feSpotLight", "feTile", "feTurbulence", "foreignObject", "glyphRef", "linearGradient",
		"radialGradient", "textPath",
	}
}

// attributes are SVG's attributes whose names have large letters.
func attributes() []string {
	return []string{
		"attributeName", "attributeType", "baseFrequency", "baseProfile", "calcMode", "clipPathUnits",
		"diffuseConstant", "edgeMode", "filterUnits", "glyphRef", "gradientTransform", "gradientUnits",
		"kernelMatrix", "kernelUnitLength", "keyPoints", "keySplines", "keyTimes", "lengthAdjust",
		"limitingConeAngle", "markerHeight", "markerUnits", "markerWidth", "maskContentUnits", "maskUnits",
		"numOctaves", "pathLength", "patternContentUnits", "patternTransform", "patternUnits", "pointsAtX",
		"pointsAtY", "pointsAtZ", "preserveAlpha", "preserveAspectRatio", "primitiveUnits", "refX", "refY",
		"repeatCount", "repeatDur", "requiredExtensions", "requiredFeatures", "specularConstant", "specularExponent",
		"spreadMethod", "startOffset", "stdDeviation", "stitchTiles", "surfaceScale", "systemLanguage", "tableValues",
		"targetX", "targetY", "textLength", "viewBox", "viewTarget", "xChannelSelector", "yChannelSelector",
		"zoomAndPan",
	}
}

// textPoints are the names of MathML's text points.
func textPoints() []string {
	return []string{"mi", "mo", "mn", "ms", "mtext"}
}

// htmlPoints are the names of SVG's HTML points. MathML's one hangs on an attribute.
func htmlPoints() []string {
	return []string{"foreignObject", "desc", "title"}
}

// breaking are the names of start tags that lead out of foreign content, but for font, which hangs on its attributes.
func breaking() []string {
	return []string{
		"b", "big", "blockquote", "body", "br", "center", "code", "dd", "div", "dl", "dt", "em", "embed", "h1", "h2",
		"h3", "h4", "h5", "h6", "head", "hr", "i", "img", "li", "listing", "menu", "meta", "nobr", "ol", "p", "pre",
		"ruby", "s", "small", "span", "strong", "strike", "sub", "sup", "table", "tt", "u", "ul", "var",
	}
}
