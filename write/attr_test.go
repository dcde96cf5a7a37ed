package write_test

import (
	"strconv"
	"strings"
	"testing"

	"hornbeam/api"
)

// P17.2

// checkTag asks for the start tag of an element p of each namespace with the attributes.
func checkTag(t *testing.T, want string, attrs ...api.Attr) {
	t.Helper()
	for _, space := range []int{api.HTML, api.MathML, api.SVG} {
		checkWritten(t, document(elem("p").in(space).with(attrs...)), "<p"+want+"></p>")
	}
	checkWritten(t, document(elem("br").with(attrs...)), "<br"+want+">")
	checkWritten(t, document(elem("style", text("&")).with(attrs...)), "<style"+want+">&</style>")
}

func TestAttributesOfEachNamespace(t *testing.T) {
	for _, row := range []struct {
		space int
		name  string
		want  string
	}{
		{api.HTML, "a", "a"},
		{api.HTML, "xmlns", "xmlns"},
		{api.HTML, "xlink:href", "xlink:href"},
		{api.XML, "lang", "xml:lang"},
		{api.XML, "xml", "xml:xml"},
		{api.XML, "xmlns", "xml:xmlns"},
		{api.XLink, "href", "xlink:href"},
		{api.XLink, "xlink", "xlink:xlink"},
		{api.XLink, "xmlns", "xlink:xmlns"},
		{api.XMLNS, "xmlns", "xmlns"},
		{api.XMLNS, "xlink", "xmlns:xlink"},
		{api.XMLNS, "", "xmlns:"},
		{api.XMLNS, "xmln", "xmlns:xmln"},
		{api.XMLNS, "xmlnss", "xmlns:xmlnss"},
		{api.XMLNS, "XMLNS", "xmlns:XMLNS"},
		{api.XMLNS, "xmlns:xmlns", "xmlns:xmlns:xmlns"},
	} {
		for _, prefix := range []string{"", "xml", "xlink", "xmlns", "other"} {
			checkTag(t, " "+row.want+`="v"`, api.Attr{Space: row.space, Prefix: prefix, Name: row.name, Value: "v"})
		}
	}
}

func TestAttributesOfOtherNamespaces(t *testing.T) { // layer 1 keeps them; the chapter has no word for them
	for _, space := range []int{api.MathML, api.SVG, 6, -1, 1<<63 - 1, -1 << 63} {
		checkTag(t, ` xmlns="v"`, api.Attr{Space: space, Prefix: "xml", Name: "xmlns", Value: "v"})
	}
}

func TestAttributesStandInTheirOrder(t *testing.T) {
	checkTag(t, ` b="1" xmlns:xlink="2" xml:lang="3" xlink:href="4" a="" b="5" xmlns=""`,
		api.Attr{Name: "b", Value: "1"},
		api.Attr{Space: api.XMLNS, Prefix: "xmlns", Name: "xlink", Value: "2"},
		api.Attr{Space: api.XML, Prefix: "xml", Name: "lang", Value: "3"},
		api.Attr{Space: api.XLink, Prefix: "xlink", Name: "href", Value: "4"},
		api.Attr{Prefix: "y", Name: "a"},
		api.Attr{Name: "b", Value: "5"},
		api.Attr{Space: api.XMLNS, Name: "xmlns"})
}

func TestAttributesValuesAreEscaped(t *testing.T) {
	for _, name := range []string{"style", "p"} { // a plain element's attributes are not plain
		x := elem(name)
		want := ""
		for i, space := range []int{api.HTML, api.XLink, api.XML, api.XMLNS} {
			x.attrs = append(x.attrs, api.Attr{Space: space, Name: "a", Value: odd})
			want += " " + []string{"", "xlink:", "xml:", "xmlns:"}[i] + `a="` + oddValue + `"`
		}
		checkWritten(t, document(x), "<"+name+want+"></"+name+">")
	}
}

func TestAttributesAtTheLimit(t *testing.T) {
	x := elem("p")
	var want strings.Builder
	for i := range maxAttrs {
		x.attrs = append(x.attrs, api.Attr{Space: api.XML, Name: strconv.Itoa(i), Value: strconv.Itoa(i) + "&"})
		want.WriteString(" xml:" + strconv.Itoa(i) + `="` + strconv.Itoa(i) + `&amp;"`)
	}
	checkWritten(t, document(x), "<p"+want.String()+"></p>")
}
