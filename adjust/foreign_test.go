package adjust_test

import (
	"math/rand"
	"slices"
	"testing"

	"hornbeam/adjust"
	"hornbeam/api"
)

// P11.1: each name that tells of a namespace, with the chapter's example; the value stays.
func TestForeignOfEachName(t *testing.T) {
	for _, row := range []struct {
		name string
		want api.Attr
	}{
		{"xlink:actuate", api.Attr{Space: xlink, Prefix: "xlink", Name: "actuate"}},
		{"xlink:arcrole", api.Attr{Space: xlink, Prefix: "xlink", Name: "arcrole"}},
		{"xlink:href", api.Attr{Space: xlink, Prefix: "xlink", Name: "href"}},
		{"xlink:role", api.Attr{Space: xlink, Prefix: "xlink", Name: "role"}},
		{"xlink:show", api.Attr{Space: xlink, Prefix: "xlink", Name: "show"}},
		{"xlink:title", api.Attr{Space: xlink, Prefix: "xlink", Name: "title"}},
		{"xlink:type", api.Attr{Space: xlink, Prefix: "xlink", Name: "type"}},
		{"xml:lang", api.Attr{Space: xml, Prefix: "xml", Name: "lang"}},
		{"xml:space", api.Attr{Space: xml, Prefix: "xml", Name: "space"}},
		{"xmlns", api.Attr{Space: xmlns, Prefix: "", Name: "xmlns"}},
		{"xmlns:xlink", api.Attr{Space: xmlns, Prefix: "xmlns", Name: "xlink"}},
	} {
		for _, value := range []string{"", "v", row.name, "\xff", "xlink:HREF"} {
			row.want.Value = value
			isMade(t, adjust.Foreign, api.Attr{Name: row.name, Value: value}, row.want)
			isMade(t, adjust.Foreign, api.Attr{Prefix: "old", Name: row.name, Value: value}, row.want)
		}
		for _, s := range near(row.name) {
			a := api.Attr{Name: s, Value: "v"}
			isMade(t, adjust.Foreign, a, plainForeign(a))
		}
		for _, s := range []string{upper(row.name), mixed(row.name)} {
			isMade(t, adjust.Foreign, api.Attr{Name: s}, api.Attr{Name: s})
		}
		for _, space := range spaces() {
			a := api.Attr{Space: space, Prefix: "p", Name: row.name, Value: "v"}
			isMade(t, adjust.Foreign, a, a)
		}
	}
}

// P11.1: other words behind the colon, other words ahead of it, and names of the other calls.
func TestForeignOfOtherNames(t *testing.T) {
	for _, s := range []string{"", ":", "xlink", "xlink:", "xlink:lang", "xlink:space", "xlink:xmlns", "xlink:xlink", "xlink:hre", "xlink:hrefs", "xlink:HREF",
		"xlink: href", "xlink::href", "XLINK:href", "xlinkhref", "href", ":href", "xml", "xml:", "xml:base", "xml:id", "xml:href", "xml:title",
		"xml:xmlns", "xml:xlink", "xml:langs", "xml:lan", "lang", "space", "xmlns:", "xmlns:svg", "xmlns:xml", "xmlns:xmlns", "xmlns:href",
		"xmlns:xlinks", "xmlns:xlin", "xmlns:lang", "xmln", "xmlnss", "XMLNS", "viewbox", "viewBox", "definitionurl", "glyphref", "svg:href",
		"\xff", "xlink:\xff", "xmlns:xlin\u212a", "xlin\u212a:href", "xlink:\u017fhow", "xlink:t\u0130tle"} {
		isMade(t, adjust.Foreign, api.Attr{Name: s, Value: "v"}, api.Attr{Name: s, Value: "v"})
		isMade(t, adjust.Foreign, api.Attr{Prefix: "p", Name: s}, api.Attr{Prefix: "p", Name: s})
	}
}

// P3: none and an empty list.
func TestEmptyLists(t *testing.T) {
	for _, w := range ways {
		for _, l := range [][]api.Attr{nil, {}} {
			if got := w.call(l); len(got) != 0 {
				t.Errorf("%s of an empty list: %s", w.name, told(got))
			}
		}
	}
}

// P11.1: each attribute by itself: order, doubles and values stay, whatever stands beside it.
func TestWholeLists(t *testing.T) {
	asPlain(t, []api.Attr{{Name: "viewbox", Value: "1"}, {Name: "xlink:href"}, {Name: "x"}, {Name: "viewbox", Value: "2"}, {Name: "viewBox", Value: "3"},
		{Name: "definitionurl", Value: "4"}, {Name: "xmlns", Value: "5"}, {Space: svg, Name: "viewbox"}, {Name: "definitionurl"}, {Name: "xlink:href", Value: "6"},
		{Space: xlink, Prefix: "xlink", Name: "href"}, {}, {Name: "xml:lang"}})
	var all []api.Attr
	for _, x := range slices.Concat(svgAttributes, svgElements, xlinks) {
		all = append(all, api.Attr{Name: lower(x), Value: x}, api.Attr{Name: "xlink:" + x}, api.Attr{Name: "xml:" + x}, api.Attr{Name: "xmlns:" + x})
	}
	asPlain(t, all)
	slices.Reverse(all)
	asPlain(t, all)
}

// P4: the answer is new memory: neither list is seen in the other, nor one answer in the next.
func TestAnswersAreNew(t *testing.T) {
	for _, w := range ways {
		room := make([]api.Attr, 3, 8)
		copy(room, []api.Attr{{Name: "x"}, {Name: "viewbox"}, {Space: xml, Name: "lang"}})
		got := w.call(room)
		want := slices.Clone(got)
		room[0].Name, room[2].Value = "changed", "changed"
		if !slices.Equal(got, want) {
			t.Errorf("%s: the answer has changed with the list: %s", w.name, told(got))
		}
		got[1] = api.Attr{Name: "changed"}
		_ = append(got, api.Attr{Name: "more"})
		if room[1].Name != "viewbox" || room[:4][3] != (api.Attr{}) {
			t.Errorf("%s: the list has changed with the answer: %s", w.name, told(room[:4]))
		}
		room[0].Name, room[2].Value = "x", ""
		if again := w.call(room); !slices.Equal(again, want) {
			t.Errorf("%s: the second answer is %s; want %s", w.name, told(again), told(want))
		}
	}
}

// P11.1, P11.3: lists of attributes with signs put in, taken out and changed, at once and twice.
func TestManyLists(t *testing.T) {
	r := rand.New(rand.NewSource(11))
	names := slices.Concat(svgAttributes, svgElements, []string{"definitionurl", "xmlns", "xmlns:xlink", "xml:lang", "xml:space", "xml:base", "", "x"})
	for _, s := range xlinks {
		names = append(names, "xlink:"+s, "xml:"+s)
	}
	prefixes := []string{"", "", "xlink", "xml", "p"}
	for range 20000 {
		var l []api.Attr
		for range r.Intn(6) {
			a := api.Attr{Prefix: prefixes[r.Intn(5)], Name: changed(r, names[r.Intn(len(names))]), Value: names[r.Intn(len(names))]}
			if r.Intn(3) == 0 {
				a.Space = spaces()[r.Intn(len(spaces()))]
			}
			l = append(l, a)
		}
		asPlain(t, l)
	}
}

// P11.3: the calls one behind the other, as a tree is built, and all of it once more.
func TestAllCallsTwice(t *testing.T) {
	var l []api.Attr
	for _, x := range slices.Concat(svgAttributes, []string{"definitionurl", "xlink:href", "xml:space", "xmlns", "xmlns:xlink", "x", "xml:base"}) {
		l = append(l, api.Attr{Name: lower(x), Value: x})
	}
	for _, first := range ways {
		for _, second := range ways {
			once := second.call(first.call(l))
			if twice := second.call(first.call(once)); !slices.Equal(once, twice) {
				t.Errorf("%s and %s: %s; once more: %s", first.name, second.name, told(once), told(twice))
			}
		}
	}
}
