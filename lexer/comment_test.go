package lexer_test

import (
	"strings"
	"testing"

	"hornbeam/lexer"
)

// P9.1: comments, and what begins with <!.

const (
	eofInComment = "eof-in-comment"
	abrupt       = "abrupt-closing-of-empty-comment"
	opened       = "incorrectly-opened-comment"
	closed       = "incorrectly-closed-comment"
	nested       = "nested-comment"
	noSection    = "cdata-in-html-content"
)

func TestComments(t *testing.T) {
	examples(t, inData, "", []example{
		{"<!---->", `{} .`, ""},
		{"<!--a-->b", `{a} "b" .`, ""},
		{"<!-- A/>&amp;\t-->", "{ A/>&amp;\t} .", ""},
		{"<!--a-b--c-->", `{a-b--c} .`, ""},
		{"<!---a-->", `{-a} .`, ""},
		{"<!--a--->", `{a-} .`, ""},
		{"<!--a----->", `{a---} .`, ""},
		{"<!----->", `{-} .`, ""},
		{"<!----a-->", `{--a} .`, ""},
		{"<!--a->-->", `{a->} .`, ""},
		{"<!--a-- >-->", `{a-- >} .`, ""},
		{"<!--\x00-->", "{\ufffd} .", null},
		{"<!--a-\x00--\x00--!\x00-->", "{a-\ufffd--\ufffd--!\ufffd} .", null + " " + null + " " + null},
		{"<!---\x00-->", "{-\ufffd} .", null},
		{"<!--é-->", `{é} .`, ""},
	})
}

func TestCommentsThatEndInTheirBeginning(t *testing.T) {
	examples(t, inData, "", []example{
		{"<!-->", `{} .`, abrupt},
		{"<!--->", `{} .`, abrupt},
		{"<!-->-->", `{} "-->" .`, abrupt},
		{"<!--->a", `{} "a" .`, abrupt},
	})
}

func TestCommentsThatEndWrongly(t *testing.T) {
	examples(t, inData, "", []example{
		{"<!--a--!>b", `{a} "b" .`, closed},
		{"<!----!>", `{} .`, closed},
		{"<!--a--!-->", `{a--!} .`, ""},
		{"<!--a--!->-->", `{a--!->} .`, ""},
		{"<!--a--!--!>", `{a--!} .`, closed},
		{"<!--a--!b-->", `{a--!b} .`, ""},
		{"<!--a--!!>-->", `{a--!!>} .`, ""},
		{"<!--a---!>", `{a-} .`, closed},
		{"<!--a-!>-->", `{a-!>} .`, ""},
	})
	for _, text := range []string{"", "-", "--", "--!"} {
		example{"<!--" + text, `{} .`, eofInComment}.in(t, inData, "")
		example{"<!--a" + text, `{a} .`, eofInComment}.in(t, inData, "")
	}
	examples(t, inData, "", []example{
		{"<!--a---", `{a-} .`, eofInComment},
		{"<!--a--!-", `{a--!} .`, eofInComment},
		{"<!--<", `{<} .`, eofInComment},
		{"<!--<!", `{<!} .`, eofInComment},
		{"<!--<!-", `{<!} .`, eofInComment},
		{"<!--<!--", `{<!} .`, eofInComment},
		{"<!--<!---", `{<!-} .`, nested + " " + eofInComment},
	})
}

func TestCommentsWithLess(t *testing.T) {
	examples(t, inData, "", []example{
		{"<!--<a-->", `{<a} .`, ""},
		{"<!--<<a-->", `{<<a} .`, ""},
		{"<!--<-->", `{<} .`, ""},
		{"<!--<!a-->", `{<!a} .`, ""},
		{"<!--<<!a-->", `{<<!a} .`, ""},
		{"<!--<!<!a-->", `{<!<!a} .`, ""},
		{"<!--<!>-->", `{<!>} .`, ""},
		{"<!--<!->-->", `{<!->} .`, ""},
		{"<!--<!-a-->", `{<!-a} .`, ""},
		{"<!--<!-->", `{<!} .`, ""},
		{"<!--<!--a-->", `{<!--a} .`, nested},
		{"<!--<!---->", `{<!--} .`, nested},
		{"<!--<!--->", `{<!-} .`, nested},
		{"<!--<!--!>", `{<!} .`, nested + " " + closed},
		{"<!--<!-- -->", `{<!-- } .`, nested},
		{"<!--<!--\x00-->", "{<!--\ufffd} .", nested + " " + null},
		{"<!--<\x00<!\x00<!-\x00-->", "{<\ufffd<!\ufffd<!-\ufffd} .", null + " " + null + " " + null},
		{"<!--a--<!--b-->", `{a--<!--b} .`, nested},
	})
}

func TestBogusComments(t *testing.T) {
	examples(t, inData, "", []example{
		{"<!>", `{} .`, opened},
		{"<!", `{} .`, opened},
		{"<!a>b", `{a} "b" .`, opened},
		{"<!a", `{a} .`, opened},
		{"<!A />", `{A /} .`, opened},
		{"<! -->", `{ --} .`, opened},
		{"<!/>", `{/} .`, opened},
		{"<!\x00>", "{\ufffd} .", opened + " " + null},
		{"<!a\x00>", "{a\ufffd} .", opened + " " + null},
		{"<!->", `{-} .`, opened},
		{"<!-", `{-} .`, opened},
		{"<!- ->", `{- -} .`, opened},
		{"<!\u2010->", "{\u2010-} .", opened},
		{"<!d\u03bfctype a>", "{d\u03bfctype a} .", opened},
		{"<!ELEMENT a>", `{ELEMENT a} .`, opened},
		{"<!-\x00>", "{-\ufffd} .", opened + " " + null},
	})
}

// Each beginning of a word that may stand behind <!, with another sign behind it, with > and with the end.
func TestBeginningsOfMarkup(t *testing.T) {
	for _, word := range []string{"--", "doctype", "DOCTYPE", "dOcTyPe", "[CDATA["} {
		for i := range len(word) {
			head := word[:i]
			example{"<!" + head, "{" + head + "} .", opened}.in(t, inData, "")
			for _, sign := range []string{"x", "X", "/", " ", "[", "-", "d", "&"} {
				if strings.EqualFold(sign, word[i:i+1]) || i == 0 {
					continue
				}
				text := head + sign + "b"
				example{"<!" + text + ">c", "{" + text + `} "c" .`, opened}.in(t, inData, "")
			}
			example{"<!" + head + ">", "{" + head + "} .", opened}.in(t, inData, "")
			example{"<!" + head + "\x00>", "{" + head + "\ufffd} .", opened + " " + null}.in(t, inData, "")
		}
	}
	// Only doctype has letters of any size.
	for _, word := range []string{"[cdata[", "[Cdata[", "[CDATa[", "[CDATA{", "{CDATA["} {
		example{"<!" + word + "a]]>", "{" + word + "a]]} .", opened}.in(t, inData, "")
	}
}

func TestNoSections(t *testing.T) {
	examples(t, inData, "", []example{
		{"<![CDATA[a]]>b", `{[CDATA[a]]} "b" .`, noSection},
		{"<![CDATA[]]>", `{[CDATA[]]} .`, noSection},
		{"<![CDATA[>]]>", `{[CDATA[} "]]>" .`, noSection},
		{"<![CDATA[", `{[CDATA[} .`, noSection},
		{"<![CDATA[\x00>", "{[CDATA[\ufffd} .", noSection + " " + null},
	})
}

func TestSections(t *testing.T) {
	x := lexer.New()
	gives(t, "Sections", x.Sections(true), ok)
	puts(t, x, "a<![CDATA[<b>&amp;]]]>&amp;<![CDATA[]]><!--a--><![cdata[")
	tells(t, x, `"a<b>&amp;]&" {a}`, opened)
	puts(t, x, ">")
	gives(t, "Sections", x.Sections(false), ok)
	puts(t, x, "<![CDATA[]]>")
	tells(t, x, `{[cdata[} {[CDATA[]]}`, noSection)

	// What holds is asked where the word ends.
	puts(t, x, "<![CDATA")
	gives(t, "Sections", x.Sections(true), ok)
	puts(t, x, "[")
	gives(t, "Sections", x.Sections(false), ok)
	puts(t, x, "b]]>c")
	tells(t, x, `"bc"`, "")
	gives(t, "Sections", x.Sections(true), ok)
	puts(t, x, "<![CDATA")
	gives(t, "Sections", x.Sections(false), ok)
	puts(t, x, "[b>")
	tells(t, x, `{[CDATA[b}`, noSection)
}
