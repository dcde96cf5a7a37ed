package lexer_test

import (
	"testing"
)

// P9.1: tags and their attributes.

const (
	solidus   = "unexpected-solidus-in-tag"
	duplicate = "duplicate-attribute"
	inName    = "unexpected-character-in-attribute-name"
	inPlain   = "unexpected-character-in-unquoted-attribute-value"
	noBlank   = "missing-whitespace-between-attributes"
	noValue   = "missing-attribute-value"
	equals    = "unexpected-equals-sign-before-attribute-name"
)

func TestTagOpen(t *testing.T) {
	const before = "eof-before-tag-name"
	const question = "unexpected-question-mark-instead-of-tag-name"
	examples(t, inData, "", []example{
		{"<", `"<" .`, before},
		{"a<", `"a<" .`, before},
		{"<1>", `"<1>" .`, wrongFirst},
		{"< a>", `"< a>" .`, wrongFirst},
		{"<>", `"<>" .`, wrongFirst},
		{"<\x00", `"<\x00" .`, wrongFirst + " " + null},
		{"<<a>", `"<" [a] .`, wrongFirst},
		{"<&amp;", `"<&" .`, wrongFirst},
		{"<é>", `"<é>" .`, wrongFirst},
		{"<=", `"<=" .`, wrongFirst},
		{"<@<[<`<{", "\"<@<[<`<{\" .", wrongFirst + " " + wrongFirst + " " + wrongFirst + " " + wrongFirst},
		{"<\u212a>", "\"<\u212a>\" .", wrongFirst},
		{"<?>", `{?} .`, question},
		{"<?a b?>c", `{?a b?} "c" .`, question},
		{"<?", `{?} .`, question},
		{"<?\x00>", "{?\ufffd} .", question + " " + null},
		{"</", `"</" .`, before},
		{"</>", `.`, "missing-end-tag-name"},
		{"</>a", `"a" .`, "missing-end-tag-name"},
		{"</1>a", `{1} "a" .`, wrongFirst},
		{"</ a>", `{ a} .`, wrongFirst},
		{"<//a>", `{/a} .`, wrongFirst},
		{"</</a>", `{</a} .`, wrongFirst},
		{"</!-->", `{!--} .`, wrongFirst},
		{"</\x00>", "{\ufffd} .", wrongFirst + " " + null},
		{"</&amp;", `{&amp;} .`, wrongFirst},
	})
}

func TestTagNames(t *testing.T) {
	examples(t, inData, "", []example{
		{"<a>", `[a] .`, ""},
		{"<A></A>", `[a] [/a] .`, ""},
		{"<aZ1-:=\"'<&amp;É\u212a>", "[az1-:=\"'<&amp;É\u212a] .", ""},
		{"<z></Z>", `[z] [/z] .`, ""},
		{"<a\x00B></\x61\x00>", "[a\ufffdb] [/a\ufffd] .", null + " " + null},
		{"<a\t></a\n><a\f></a >", `[a] [/a] [a] [/a] .`, ""},
		{"<a\r>", "[a\r] .", ""},
		{"<a", `.`, eofInTag},
		{"</a", `.`, eofInTag},
		{"b<a ", `"b" .`, eofInTag},
		{"<a\n/", `.`, eofInTag},
	})
}

func TestSelfClosing(t *testing.T) {
	examples(t, inData, "", []example{
		{"<a/>", `[a/] .`, ""},
		{"<a />", `[a/] .`, ""},
		{"<a b/>", `[a b=""/] .`, ""},
		{"<a b />", `[a b=""/] .`, ""},
		{"<a b='c'/>", `[a b="c"/] .`, ""},
		{"<a b=c/>", `[a b="c/"] .`, ""},
		{"<a b=/>", `[a b="/"] .`, ""},
		{"<a/", `.`, eofInTag},
		{"<a/b>", `[a b=""] .`, solidus},
		{"<a/B/>", `[a b=""/] .`, solidus},
		{"<a/ >", `[a] .`, solidus},
		{"<a//>", `[a/] .`, solidus},
		{"<a/ />", `[a/] .`, solidus},
		{"<a///", `.`, solidus + " " + solidus + " " + eofInTag},
		{"<a/=>", `[a ==""] .`, solidus + " " + equals},
		{"<a/\x00>", "[a \ufffd=\"\"] .", solidus + " " + null},
		// A / parts a name from a = that would begin its value.
		{"<a b/=c>", `[a b="" =c=""] .`, solidus + " " + equals},
		{"<a b /=c>", `[a b="" =c=""] .`, solidus + " " + equals},
	})
}

func TestEndTagsWithMore(t *testing.T) {
	examples(t, inData, "", []example{
		{"</a b>", `[/a b=""] .`, endAttrs},
		{"</a b=1 c='2'>", `[/a b="1" c="2"] .`, endAttrs},
		{"</a/>", `[/a/] .`, endSolidus},
		{"</a b/>", `[/a b=""/] .`, endAttrs + " " + endSolidus},
		{"</a b b>", `[/a b=""] .`, duplicate + " " + endAttrs},
		{"</a b=>", `[/a b=""] .`, noValue + " " + endAttrs},
		{"</a >", `[/a] .`, ""},
		{"</a / >", `[/a] .`, solidus},
		{"<a b/></a b", `[a b=""/] .`, eofInTag},
		{"</a =/>", `[/a ==""/] .`, equals + " " + endAttrs + " " + endSolidus},
	})
}

func TestAttributes(t *testing.T) {
	examples(t, inData, "", []example{
		{"<a b>", `[a b=""] .`, ""},
		{"<a b c>", `[a b="" c=""] .`, ""},
		{"<a b=c d='e' f=\"g\">", `[a b="c" d="e" f="g"] .`, ""},
		{"<a Bz=CZ>", `[a bz="CZ"] .`, ""},
		{"<a b='C' D=\"E\">", `[a b="C" d="E"] .`, ""},
		{"<a b = c>", `[a b="c"] .`, ""},
		{"<a\tb\n=\fc\fd\t=\n'e'\f>", `[a b="c" d="e"] .`, ""},
		{"<a b=' \t>/<`' c=\"'=\" d='\"'>", "[a b=\" \t>/<`\" c=\"'=\" d=\"\"\"] .", ""},
		{"<a b='' c=\"\">", `[a b="" c=""] .`, ""},
		{"<a É=É>", `[a É="É"] .`, ""},
		{"<a \u212a=1 k=2>", "[a \u212a=\"1\" k=\"2\"] .", ""},
		{"<a 1-&amp;=2>", `[a 1-&amp;="2"] .`, ""},
		{"<a b=c\rd>", "[a b=\"c\rd\"] .", ""},
	})
}

func TestAttributesThatAreWrong(t *testing.T) {
	examples(t, inData, "", []example{
		{"<a =>", `[a ==""] .`, equals},
		{"<a =b>", `[a =b=""] .`, equals},
		{"<a ==b>", `[a =="b"] .`, equals},
		{"<a b=c =d>", `[a b="c" =d=""] .`, equals},
		{"<a b\"c'd<e>", `[a b"c'd<e=""] .`, inName + " " + inName + " " + inName},
		{"<a '>", `[a '=""] .`, inName},
		{"<a b `>", "[a b=\"\" `=\"\"] .", ""},
		{"<a \x00b\x00=c>", "[a \ufffdb\ufffd=\"c\"] .", null + " " + null},
		{"<a b=>", `[a b=""] .`, noValue},
		{"<a b= >", `[a b=""] .`, noValue},
		{"<a b = >c", `[a b=""] "c" .`, noValue},
		{"<a b==c>", `[a b="=c"] .`, inPlain},
		{"<a b=c\"'<=`d>", "[a b=\"c\"'<=`d\"] .", inPlain + " " + inPlain + " " + inPlain + " " + inPlain + " " + inPlain},
		{"<a b=`c`>", "[a b=\"`c`\"] .", inPlain + " " + inPlain},
		{"<a b=<>", `[a b="<"] .`, inPlain},
		{"<a b=\x00 c='\x00' d=\"\x00\">", "[a b=\"\ufffd\" c=\"\ufffd\" d=\"\ufffd\"] .", null + " " + null + " " + null},
		{"<a b=c\x00>", "[a b=\"c\ufffd\"] .", null},
		{"<a b='c'd>", `[a b="c" d=""] .`, noBlank},
		{"<a b=\"c\"D='e'f>", `[a b="c" d="e" f=""] .`, noBlank + " " + noBlank},
		{"<a b=''=>", `[a b="" ==""] .`, noBlank + " " + equals},
		{"<a b=''\x00>", "[a b=\"\" \ufffd=\"\"] .", noBlank + " " + null},
		{"<a b=''''>", `[a b="" ''=""] .`, noBlank + " " + inName + " " + inName},
	})
}

// The end in each state of a tag: it is not told, its errors are.
func TestEndWithinATag(t *testing.T) {
	for _, text := range []string{"<a", "<a ", "<a b", "<a b ", "<a b=", "<a b= ", "<a b='", "<a b='c", "<a b=\"", "<a b=\"c", "<a b=c", "<a b='c'",
		"<a b=c ", "<a/", "<a b/", "<a b='c'/", "</a", "</a ", "</a b", "</a b=c/", "</a/", "<A B=C D=\"E\" "} {
		example{text, ".", eofInTag}.in(t, inData, "")
		example{"x" + text, `"x" .`, eofInTag}.in(t, inData, "a")
	}
	examples(t, inData, "", []example{
		{"<a b\"", ".", inName + " " + eofInTag},
		{"<a =", ".", equals + " " + eofInTag},
		{"<a b=`", ".", inPlain + " " + eofInTag},
		{"<a b=''c", ".", noBlank + " " + eofInTag},
		{"<a b b", ".", duplicate + " " + eofInTag},
		{"<a b b=", ".", duplicate + " " + eofInTag},
		{"<a b='&amp", ".", noSemicolon + " " + eofInTag},
		{"<a b=&zz;", ".", unknownNamed + " " + eofInTag},
		{"<a b=\"&zz", ".", eofInTag},
		{"<a b='&#128;", ".", "control-character-reference " + eofInTag},
		{"<a b=&#65", ".", noSemicolon + " " + eofInTag},
		{"<a b=&#", ".", "absence-of-digits-in-numeric-character-reference " + eofInTag},
		{"<a b=&", ".", eofInTag},
		{"<a b=&am", ".", eofInTag},
	})
}

// P9.1, P9.4: of one name the first attribute holds, whatever the values are.
func TestAttributesOfOneName(t *testing.T) {
	examples(t, inData, "", []example{
		{"<a b b>", `[a b=""] .`, duplicate},
		{"<a b b >", `[a b=""] .`, duplicate},
		{"<a b b/>", `[a b=""/] .`, duplicate},
		{"<a b b=>", `[a b=""] .`, duplicate + " " + noValue},
		{"<a b=1 b=2>", `[a b="1"] .`, duplicate},
		{"<a b=1 B='2'>", `[a b="1"] .`, duplicate},
		{"<a b=1 b=\"2\"c>", `[a b="1" c=""] .`, duplicate + " " + noBlank},
		{"<a b=1 b=2 c=3>", `[a b="1" c="3"] .`, duplicate},
		{"<a b=1 b=2 b=3>", `[a b="1"] .`, duplicate + " " + duplicate},
		{"<a b=1 c=2 b=3 c=4 d=5>", `[a b="1" c="2" d="5"] .`, duplicate + " " + duplicate},
		{"<a b=1 b = 2 >", `[a b="1"] .`, duplicate},
		{"<a b=1 b  c>", `[a b="1" c=""] .`, duplicate},
		{"<a b=1 b/c>", `[a b="1" c=""] .`, duplicate + " " + solidus},
		{"<a b=1 b=&amp>", `[a b="1"] .`, duplicate + " " + noSemicolon},
		{"<a b=1 bb=2 b1=3>", `[a b="1" bb="2" b1="3"] .`, ""},
		{"<a = =>", `[a ==""] .`, equals + " " + noValue},
		{"<a =/=>", `[a ==""] .`, equals + " " + solidus + " " + equals + " " + duplicate},
		{"<a \x00 \ufffd>", "[a \ufffd=\"\"] .", null + " " + duplicate},
		{"<a b=1><a b=2></a b=3>", `[a b="1"] [a b="2"] [/a b="3"] .`, endAttrs},
		{"<a é=1 É=2>", `[a é="1" É="2"] .`, ""},
	})
}
