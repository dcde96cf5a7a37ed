package class_test

import (
	"strconv"
	"strings"
	"testing"

	"hornbeam/api"
)

// P19.1: plain names, attributes, texts and comments.

func TestNamesOfAttributes(t *testing.T) {
	fifty := strings.Repeat("abcde", 10)
	good := []string{"a", "z", "id", "a1", "a-", "a--", "a-b", "z9", "a0", "a-9-", "xmlns", "data-x", "onload", "charset", fifty,
		"a" + strings.Repeat("-", 49), "a" + strings.Repeat("9", 49), fifty[:49]}
	bad := []string{"", "1", "9a", "-", "-a", "--", "A", "aA", "Aa", "Z", "aZb", "é", "aé", "a\xff", "a b", " a", "a ", "a_", "_a", "a:b", "xlink:href",
		"a.b", "a=", "=", "a/", "a>", "<a", `a"`, "a'", "a\n", "a\x00", "\x00", "a\r", "a`", "{a", "a{", "a@", "[a", "ａ", "ſ", "K",
		fifty + "a", fifty + "-", strings.Repeat(fifty, 20), strings.Repeat("é", 25), strings.Repeat("é", 50)}
	for _, parent := range append([]string{"body", "p", "span"}, holders...) {
		of := func(parts ...string) thing {
			x := elem(parent).with(parts...)
			if parent == "body" {
				return document(elem("html", elem("head"), x))
			}
			return page(x)
		}
		for _, name := range good {
			checkClass(t, parent+" with "+name, of(name, "v"), true)
			checkClass(t, parent+" with "+name+" and another", of("other", "v", name, ""), true)
		}
		for _, name := range bad {
			checkClass(t, parent+" with "+name, of(name, "v"), false)
			checkClass(t, parent+" with another and "+name, of("other", "v", name, "v"), false)
			checkClass(t, parent+" with "+name+" and another", of(name, "v", "other", "v"), false)
		}
	}
}

// Each byte as a name's first one, and as a later one.
func TestEachByteOfAName(t *testing.T) {
	for c := range 256 {
		s := string([]byte{byte(c)})
		small, digit := c >= 97 && c <= 122, c >= 48 && c <= 57 || c == 45
		checkClass(t, "at the beginning: "+strconv.Quote(s), page(elem("p").with(s+"x", "")), small)
		checkClass(t, "alone: "+strconv.Quote(s), page(elem("p").with(s, "")), small)
		checkClass(t, "in the midst: "+strconv.Quote(s), page(elem("p").with("x"+s+"x", "")), small || digit)
		checkClass(t, "at the end: "+strconv.Quote(s), page(elem("p").with("x"+s, "")), small || digit)
	}
}

func TestAttributes(t *testing.T) {
	for _, parent := range append([]string{"p", "span"}, holders...) {
		x := elem(parent)
		for what, c := range map[string]struct {
			x    thing
			want bool
		}{
			"none":                           {x, true},
			"two":                            {x.with("b", "1", "a", "2"), true},
			"two with one value":             {x.with("b", "1", "a", "1"), true},
			"two of one name":                {x.with("a", "1", "a", "2"), false},
			"two of one name and value":      {x.with("a", "1", "a", "1"), false},
			"two of one name, not neighbors": {x.with("a", "1", "b", "2", "c", "3", "a", "4"), false},
			"a prefix":                       {x.and(api.Attr{Prefix: "x", Name: "a"}), false},
			"a prefix that is a name":        {x.and(api.Attr{Prefix: "xlink", Name: "href", Value: "a"}), false},
			"two of one name, one prefix":    {x.and(api.Attr{Name: "a"}, api.Attr{Prefix: "x", Name: "a"}), false},
			"MathML":                         {x.and(api.Attr{Space: 1, Name: "a"}), false},
			"SVG":                            {x.and(api.Attr{Space: 2, Name: "a"}), false},
			"XLink":                          {x.and(api.Attr{Space: 3, Name: "href"}), false},
			"XLink, and its prefix":          {x.and(api.Attr{Space: 3, Prefix: "xlink", Name: "href"}), false},
			"XML":                            {x.and(api.Attr{Space: 4, Name: "lang"}), false},
			"XMLNS":                          {x.and(api.Attr{Space: 5, Name: "xmlns"}), false},
			"no namespace's number":          {x.and(api.Attr{Space: -1, Name: "a"}), false},
			"a plain one, then another":      {x.with("a", "1").and(api.Attr{Space: 3, Name: "b"}), false},
			"another one, then a plain one":  {x.and(api.Attr{Space: 4, Name: "b"}).with("a", "1"), false},
		} {
			checkClass(t, parent+": "+what, page(c.x), c.want)
			checkClass(t, parent+", within: "+what, page(elem("div", text("a"), c.x)), c.want)
		}
	}
}

// As many attributes as an element may have.
func TestManyAttributes(t *testing.T) {
	x := elem("p", text("a"))
	for i := range maxAttrs {
		x.attrs = append(x.attrs, api.Attr{Name: "n-" + strconv.Itoa(i), Value: strconv.Itoa(i)})
	}
	checkClass(t, "p", page(x), true)
	x.name = "body"
	checkClass(t, "body", document(elem("html", elem("head"), x)), true)
	x.attrs[maxAttrs-1].Name = "n-0"
	checkClass(t, "the last one as the first", document(elem("html", elem("head"), x)), false)
}

// points are texts of code points that are plain, and then of such as are not, and of bytes that are no UTF-8.
var points = []struct {
	s     string
	plain bool
}{
	{"a", true}, {" ", true}, {"\n", true}, {"\t", true}, {"\f", true}, {"\v", true}, {"\n\n a \t", true}, {"\x01", true}, {"\x1f", true}, {"\x7f", true},
	{"\u0080", true}, {"\u0085", true}, {"\u009f", true}, {"\u00a0", true}, {"\u00ad", true}, {"é", true}, {"€", true}, {"\u2028", true}, {"\ufeff", true},
	{"\ufeffa", true}, {"\ufffd", true}, {"\ufffe", true}, {"\uffff", true}, {"\ud7ff", true}, {"\ue000", true}, {"😀", true}, {"\U0010ffff", true}, {"e\u0301", true},
	{"&", true}, {"<", true}, {">", true}, {`"`, true}, {"'", true}, {"`", true}, {"=", true}, {"/", true}, {"&amp;", true}, {"&lt", true}, {"&#65;", true}, {"&#0;", true},
	{"&#x80;", true}, {"&notit;", true}, {"&nbsp;\u00a0", true}, {"&&amp;&", true}, {"</p>", true}, {"</title></body></html>", true}, {"<!--a-->", true}, {"<!DOCTYPE html>", true},
	{"<![CDATA[a]]>", true}, {"<script>", true}, {`a="b" c='d'>`, true}, {"{}[]()$#@!%^*_+|\\~,.?", true},
	{"\x00", false}, {"a\x00b", false}, {"\r", false}, {"a\r", false}, {"\ra", false}, {"a\r\nb", false}, {"\n\r", false}, {"é\x00", false}, {"é\r", false},
	{"\xff", false}, {"a\x80", false}, {"\xc2", false}, {"a\xc2", false}, {"\xc2a", false}, {"\xe2\x82", false}, {"\xe2\x82a", false}, {"\xc0\x80", false},
	{"\xed\xa0\x80", false}, {"\xed\xbf\xbf", false}, {"\xed\xa0\xbd\xed\xb8\x80", false}, {"\xf0\x9f\x98", false}, {"\xf4\x90\x80\x80", false}, {"\xf8\x88\x80\x80\x80", false}, {"é\xbf", false},
}

func TestTexts(t *testing.T) {
	for _, parent := range append([]string{"p", "span"}, holders...) {
		checkClass(t, "an empty text", page(elem(parent, text(""))), false)
		checkClass(t, "an empty text beside", page(elem(parent, elem("span"), text(""))), false)
		for _, c := range points {
			checkClass(t, strconv.Quote(c.s), page(elem(parent, text(c.s))), c.plain)
			checkClass(t, strconv.Quote(c.s)+" behind", page(elem(parent, text("a"), comment("b"), text("c"+c.s))), c.plain)
		}
	}
	checkClass(t, "an empty text", page(text("")), false)
	for _, c := range points {
		checkClass(t, strconv.Quote(c.s), page(text(c.s)), c.plain)
		checkClass(t, "twice "+strconv.Quote(c.s), page(text(c.s+c.s), elem("div", text(c.s))), c.plain)
		checkClass(t, "a title "+strconv.Quote(c.s), headed(elem("title", text(c.s))), c.plain)
	}
}

func TestValues(t *testing.T) {
	for _, parent := range append([]string{"p", "span"}, holders...) {
		checkClass(t, "an empty value", page(elem(parent).with("a", "")), true)
		for _, c := range points {
			checkClass(t, strconv.Quote(c.s), page(elem(parent, text("b")).with("a", c.s)), c.plain)
			checkClass(t, strconv.Quote(c.s)+" behind", page(elem(parent).with("a", "b", "c", c.s+"d", "e", "")), c.plain)
		}
	}
	for _, c := range points {
		checkClass(t, strconv.Quote(c.s), document(elem("html", elem("head"), elem("body", text("b")).with("a", c.s, "c", c.s))), c.plain)
	}
}

func TestComments(t *testing.T) {
	good := []string{"", "a", " ", "-a", "a-b", "a>", "a->", "!", "!>", "-!>", "-!", "!-a", "a - - b", "a -> b", "<", "<!", "<!-a", "a<!", "a<", "<!<!", "<!->", "<a>", "a-!>b",
		"- ", "-\n", "\n>", " ->", "&amp;-&gt;", "]]>", "[CDATA[a", "\ufeff>", "é", "-é", "é>"}
	bad := []string{"-", "--", "a-", "a--", "--a", "a--b", "---", "a---b", ">", ">a", "->", "->a", "-->", "--!>", "a-->b", "a--!>b", "<!--", "<!-", "a<!-", "<!--a", " -", "é-", "é--é",
		"\x00", "a\r", "\r\n", "\xff", "a\xe2\x82", "-\x00a"}
	for _, parent := range append([]string{"p", "span"}, holders...) {
		for _, s := range good {
			checkClass(t, parent+": "+s, page(elem(parent, comment(s))), true)
			checkClass(t, parent+" and more: "+s, page(elem(parent, text("a"), comment(s), comment(s), text("b"))), true)
		}
		for _, s := range bad {
			checkClass(t, parent+": "+strconv.Quote(s), page(elem(parent, comment(s))), false)
			checkClass(t, parent+" and more: "+strconv.Quote(s), page(elem(parent, text("a"), comment("a"), comment(s))), false)
		}
	}
	for _, c := range points {
		checkClass(t, strconv.Quote(c.s), page(comment("a"+c.s+"b")), c.plain && c.s != "<!--a-->")
	}
}

// Each comment of a few signs that might end it: those of the class come back, all in one page.
func TestEachShortComment(t *testing.T) {
	var kids []thing
	n := 0
	var add func(s string)
	add = func(s string) {
		x := page(comment(s))
		if is := x.isClass(); is {
			kids = append(kids, comment(s))
		} else {
			checkAnswers(t, s, arenaOf(t, x), x, false)
		}
		if n++; len(s) == 6 {
			return
		}
		for _, c := range "-<>!a" {
			add(s + string(c))
		}
	}
	add("")
	if n != 19531 || len(kids) < 4000 {
		t.Fatalf("%d comments, %d of them plain", n, len(kids))
	}
	for _, kid := range kids {
		x := page(kid)
		checkAnswers(t, kid.data, arenaOf(t, x), x, true)
	}
	checkClass(t, "all", page(kids...), true)
}

// All plain code points, in texts, values and comments.
func TestEachCodePoint(t *testing.T) {
	const step = 0x1000
	for from := rune(0); from <= 0x10ffff; from += step {
		var s strings.Builder
		for r := from; r < from+step; r++ {
			if r != 0 && r != 13 && (r < 0xd800 || r > 0xdfff) {
				s.WriteRune(r)
			}
		}
		if all := s.String(); all != "" {
			checkClass(t, strconv.FormatInt(int64(from), 16), document(elem("html", elem("head", elem("title", text(all))),
				elem("body", text(all), elem("p", comment(all)).with("a", all)))), true)
		}
	}
}

// Each two of the first 128 code points, one behind the other.
func TestEachTwoSigns(t *testing.T) {
	for a := range 128 {
		var kids []thing
		for b := range 128 {
			s := string([]byte{byte(a), byte(b)})
			x := elem("p", text(s), elem("span", comment(s))).with("a", s)
			is := page(x).isClass()
			if !is {
				checkClass(t, strconv.Quote(s), page(x), false)
				x = elem("p", text(s)).with("a", s)
			}
			if page(x).isClass() {
				kids = append(kids, x)
			}
		}
		checkClass(t, strconv.Itoa(a), page(kids...), true)
	}
}
