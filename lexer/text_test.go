package lexer_test

import (
	"testing"

	"hornbeam/lexer"
)

// P9.1, P9.2: the states from outside, and what ends a text.

const (
	null         = "unexpected-null-character"
	eofInTag     = "eof-in-tag"
	eofInScript  = "eof-in-script-html-comment-like-text"
	endAttrs     = "end-tag-with-attributes"
	endSolidus   = "end-tag-with-trailing-solidus"
	wrongFirst   = "invalid-first-character-of-tag-name"
	noSemicolon  = "missing-semicolon-after-character-reference"
	unknownNamed = "unknown-named-character-reference"
)

func TestExamples(t *testing.T) {
	examples(t, inData, "", []example{
		{"<A b=1 b=2>x", `[a b="1"] "x" .`, "duplicate-attribute"},
		{"&notit;", `"¬it;" .`, noSemicolon},
		{"<!-->", `{} .`, "abrupt-closing-of-empty-comment"},
	})
}

func TestData(t *testing.T) {
	examples(t, inData, "", []example{
		{"", ".", ""},
		{"a B/>-]!?=;#\"'", `"a B/>-]!?=;#"'" .`, ""},
		{"\x00", `"\x00" .`, null},
		{"a\x00b\x00", `"a\x00b\x00" .`, null + " " + null},
		{"\t\n\f\r ", `"\t\n\f\r " .`, ""},
		{"é€\U0001F600", `"é€😀" .`, ""},
		{"a<b>c</b>", `"a" [b] "c" [/b] .`, ""},
		{"&lt;b>", `"<b>" .`, ""},
		{"</title>", "[/title] .", ""},
	})
}

func TestRCDATA(t *testing.T) {
	examples(t, inRCDATA, "title", []example{
		{"", ".", ""},
		{"a\x00b", `"a\ufffdb" .`, null},
		{"a&amp;b&#65;&", `"a&bA&" .`, ""},
		{"&amp</title>&amp", `"&" [/title] "&" .`, noSemicolon + " " + noSemicolon},
		{"<b></b><!--&lt;--><?x>", `"<b></b><!--<--><?x>" .`, ""},
		{"a</title><b>", `"a" [/title] [b] .`, ""},
		{"]]>\n\t", `"]]>\n\t" .`, ""},
	})
}

func TestRAWTEXT(t *testing.T) {
	examples(t, inRAWTEXT, "title", []example{
		{"", ".", ""},
		{"a\x00b", `"a\ufffdb" .`, null},
		{"&amp;<b></b><!--x--></titles>", `"&amp;<b></b><!--x--></titles>" .`, ""},
		{"a</title>&amp;<b>", `"a" [/title] "&" [b] .`, ""},
	})
}

func TestPlaintext(t *testing.T) {
	examples(t, inPlaintext, "title", []example{
		{"", ".", ""},
		{"a\x00b", `"a\ufffdb" .`, null},
		{"&amp;<b></title></plaintext><!---->", `"&amp;<b></title></plaintext><!---->" .`, ""},
	})
}

func TestCDATA(t *testing.T) {
	const cut = "eof-in-cdata"
	examples(t, inCDATA, "title", []example{
		{"", ".", cut},
		{"a\x00b", `"a\x00b" .`, cut},
		{"&amp;<b></title>", `"&amp;<b></title>" .`, cut},
		{"]]>", ".", ""},
		{"a]]>&amp;<b>", `"a&" [b] .`, ""},
		{"]", `"]" .`, cut},
		{"]]", `"]]" .`, cut},
		{"]]]", `"]]]" .`, cut},
		{"]a", `"]a" .`, cut},
		{"]]a", `"]]a" .`, cut},
		{"]>a", `"]>a" .`, cut},
		{"]]]>a", `"]a" .`, ""},
		{"]]]]]>a", `"]]]a" .`, ""},
		{"a]]b]]>c]]>", `"a]]bc]]>" .`, ""},
		{"]] >", `"]] >" .`, cut},
		{"]\x00]\x00>", `"]\x00]\x00>" .`, cut},
		{"]]\x00>]]/", `"]]\x00>]]/" .`, cut},
	})
}

// Right end tags, and those that are not, in each text that they end.
func TestEndTagsOfTexts(t *testing.T) {
	for _, state := range []int{inRCDATA, inRAWTEXT, inScript} {
		examples(t, state, "title", []example{
			{"a</title>b", `"a" [/title] "b" .`, ""},
			{"</TITLE></title>", `[/title] [/title] .`, ""},
			{"</tItLe >", `[/title] .`, ""},
			{"</title\t\n\f >", `[/title] .`, ""},
			{"</title/>", `[/title/] .`, endSolidus},
			{"</title / >", `[/title] .`, "unexpected-solidus-in-tag"},
			{"</title a=1>", `[/title a="1"] .`, endAttrs},
			{"</title/a>", `[/title a=""] .`, "unexpected-solidus-in-tag " + endAttrs},
			{"</title a/>", `[/title a=""/] .`, endAttrs + " " + endSolidus},
			{"</title ", ".", eofInTag},
			{"</title/", ".", eofInTag},
			{"</title a", ".", eofInTag},
			{"</title", `"</title" .`, ""},
			{"</titl>", `"</titl>" .`, ""},
			{"</titles>", `"</titles>" .`, ""},
			{"</TiTles/>", `"</TiTles/>" .`, ""},
			{"</titl e>", `"</titl e>" .`, ""},
			{"</titl/e>", `"</titl/e>" .`, ""},
			{"</title1>", `"</title1>" .`, ""},
			{"</title=>", `"</title=>" .`, ""},
			{"</title</title>", `"</title" [/title] .`, ""},
			{"</title\x00>", `"</title\ufffd>" .`, null},
			{"</title\r>", `"</title\r>" .`, ""},
			{"</t\x00", `"</t\ufffd" .`, null},
			{"<", `"<" .`, ""},
			{"</", `"</" .`, ""},
			{"</>", `"</>" .`, ""},
			{"</ title>", `"</ title>" .`, ""},
			{"<//title>", `"<//title>" .`, ""},
			{"</\x00", `"</\ufffd" .`, null},
			{"</1", `"</1" .`, ""},
			{"<title>", `"<title>" .`, ""},
			{"<<</title>", `"<<" [/title] .`, ""},
			{"< /title>", `"< /title>" .`, ""},
			{"<\x00/title>", `"<\ufffd/title>" .`, null},
			{"<>", `"<>" .`, ""},
			{"</b></B ></b/>", `"</b></B ></b/>" .`, ""},
		})
		// No start tag: no end tag is a right one.
		examples(t, state, "", []example{
			{"</title>", `"</title>" .`, ""},
			{"</>", `"</>" .`, ""},
			{"</ >", `"</ >" .`, ""},
			{"<//", `"<//" .`, ""},
		})
		// The name is what it was said to be, capitals too.
		examples(t, state, "Title", []example{{"</Title></title>", `"</Title></title>" .`, ""}})
		examples(t, state, "tit\xff", []example{{"</tit>", `"</tit>" .`, ""}})
		examples(t, state, "b1", []example{{"</b1>", `"</b1>" .`, ""}})
	}
}

// A start tag's name is the last one's, an end tag's is not; what Name says holds till the next start tag.
func TestLastStartTag(t *testing.T) {
	x := lexer.New()
	puts(t, x, "<Title></b>")
	gives(t, "Set", x.Set(inRCDATA), ok)
	puts(t, x, "</b></title>")
	tells(t, x, `[title] [/b] "</b>" [/title]`, "")

	gives(t, "Name", x.Name("b"), ok)
	gives(t, "Set", x.Set(inRAWTEXT), ok)
	puts(t, x, "</title></b>")
	tells(t, x, `"</title>" [/b]`, "")

	puts(t, x, "<i/><!--<u>--><u")
	gives(t, "Set", x.Set(inScript), ok)
	puts(t, x, "</u></b></i>")
	tells(t, x, `[i/] {<u>} "</u></b>" [/i]`, "")

	gives(t, "Name", x.Name(""), ok)
	gives(t, "Set", x.Set(inRCDATA), ok)
	puts(t, x, "</i>")
	tells(t, x, `"</i>"`, "")
}

// Name in the midst of an end tag: what holds is asked where the name ends.
func TestNameWithinAnEndTag(t *testing.T) {
	x := lexer.New()
	gives(t, "Set", x.Set(inRCDATA), ok)
	puts(t, x, "</tit")
	gives(t, "Name", x.Name("title"), ok)
	puts(t, x, "le>")
	tells(t, x, `[/title]`, "")
}

func TestScript(t *testing.T) {
	examples(t, inScript, "title", []example{
		{"", ".", ""},
		{"a\x00b&amp;", `"a\ufffdb&amp;" .`, null},
		{"<!", `"<!" .`, ""},
		{"<!-", `"<!-" .`, ""},
		{"<!a--></title>", `"<!a-->" [/title] .`, ""},
		{"<!\x00", `"<!\ufffd" .`, null},
		{"<!-a--></title>", `"<!-a-->" [/title] .`, ""},
		{"<!-></title>", `"<!->" [/title] .`, ""},
		{"<!<!--", `"<!<!--" .`, eofInScript},
		{"<!-</title>", `"<!-" [/title] .`, ""},
		{"<!-->", `"<!-->" .`, ""},
		{"<!--->", `"<!--->" .`, ""},
		{"<!--", `"<!--" .`, eofInScript},
		{"<!--a", `"<!--a" .`, eofInScript},
		{"<!--a-", `"<!--a-" .`, eofInScript},
		{"<!--a--", `"<!--a--" .`, eofInScript},
		{"<!--a-b--c--->d", `"<!--a-b--c--->d" .`, ""},
		{"<!--a->b", `"<!--a->b" .`, eofInScript},
		{"<!--a-->b<!--c", `"<!--a-->b<!--c" .`, eofInScript},
		{"<!--\x00-\x00--\x00-->", `"<!--\ufffd-\ufffd--\ufffd-->" .`, null + " " + null + " " + null},
		{"<!-- / > A -->", `"<!-- / > A -->" .`, ""},
	})
}

func TestEscapedScript(t *testing.T) {
	examples(t, inScript, "title", []example{
		{"<!--</title>a", `"<!--" [/title] "a" .`, ""},
		{"<!--a-</title>", `"<!--a-" [/title] .`, ""},
		{"<!--a--</TITLE >", `"<!--a--" [/title] .`, ""},
		{"<!--</title/>", `"<!--" [/title/] .`, endSolidus},
		{"<!--</title", `"<!--</title" .`, eofInScript},
		{"<!--</Titles>", `"<!--</Titles>" .`, eofInScript},
		{"<!--</", `"<!--</" .`, eofInScript},
		{"<!--</1-->", `"<!--</1-->" .`, ""},
		{"<!--<", `"<!--<" .`, eofInScript},
		{"<!--<1></title>", `"<!--<1>" [/title] .`, ""},
		{"<!--<!--></title>", `"<!--<!-->" [/title] .`, ""},
		{"<!--<-->", `"<!--<-->" .`, ""},
		{"<!--<\x00", `"<!--<\ufffd" .`, null + " " + eofInScript},
		{"<!--<b></title>", `"<!--<b>" [/title] .`, ""},
		{"<!--<scripts></title>", `"<!--<scripts>" [/title] .`, ""},
		{"<!--<scrip></title>", `"<!--<scrip>" [/title] .`, ""},
		{"<!--<script-></title>", `"<!--<script->" [/title] .`, ""},
		{"<!--<script1></title>", `"<!--<script1>" [/title] .`, ""},
		{"<!--<script\x00></title>", `"<!--<script\ufffd>" [/title] .`, null},
		{"<!--<script</title>", `"<!--<script" [/title] .`, ""},
		{"<!--<script", `"<!--<script" .`, eofInScript},
	})
}

func TestTwiceEscapedScript(t *testing.T) {
	for _, open := range []string{"<script>", "<SCRIPT ", "<sCript/", "<script\n", "<script\t", "<script\f"} {
		quoted := quoted([]rune("<!--" + open))
		begun := quoted[:len(quoted)-1]
		head := "<!--" + open
		examples(t, inScript, "title", []example{
			{head, begun + `" .`, eofInScript},
			{head + "</title>", begun + `</title>" .`, eofInScript},
			{head + "-->", begun + `-->" .`, ""},
			{head + "--></title>", begun + `-->" [/title] .`, ""},
			{head + "a-b--c---></title>", begun + `a-b--c--->" [/title] .`, ""},
			{head + "a->", begun + `a->" .`, eofInScript},
			{head + "-", begun + `-" .`, eofInScript},
			{head + "--", begun + `--" .`, eofInScript},
			{head + "\x00-\x00--\x00", begun + `\ufffd-\ufffd--\ufffd" .`, null + " " + null + " " + null + " " + eofInScript},
			{head + "<", begun + `<" .`, eofInScript},
			{head + "</", begun + `</" .`, eofInScript},
			{head + "-<--></title>", begun + `-<-->" [/title] .`, ""},
			{head + "--<></title>", begun + `--<></title>" .`, eofInScript},
			{head + "</script></title>", begun + `</script>" [/title] .`, ""},
			{head + "</SCRIPT\t</title>", begun + `</SCRIPT\t" [/title] .`, ""},
			{head + "</scRipt/</title>", begun + `</scRipt/" [/title] .`, ""},
			{head + "</script></title", begun + `</script></title" .`, eofInScript},
			{head + "</script>--></title>", begun + `</script>-->" [/title] .`, ""},
			{head + "</scripts></title>", begun + `</scripts></title>" .`, eofInScript},
			{head + "</scrip></title>", begun + `</scrip></title>" .`, eofInScript},
			{head + "</script", begun + `</script" .`, eofInScript},
			{head + "</script--></title>", begun + `</script-->" [/title] .`, ""},
			{head + "</script\x00></title>", begun + `</script\ufffd></title>" .`, null + " " + eofInScript},
			{head + "< /script></title>", begun + `< /script></title>" .`, eofInScript},
			{head + "<script></script></title>", begun + `<script></script>" [/title] .`, ""},
			{head + "</script><script></title>", begun + `</script><script></title>" .`, eofInScript},
		})
	}
}
