package lexer_test

import (
	"strings"
	"testing"

	"hornbeam/entity"
)

// P9.1: references, in texts and in values.

func TestNamesInTexts(t *testing.T) {
	for _, state := range []int{inData, inRCDATA} {
		examples(t, state, "", []example{
			{"&", `"&" .`, ""},
			{"a& b", `"a& b" .`, ""},
			{"&;", `"&;" .`, ""},
			{"&=", `"&=" .`, ""},
			{"&&", `"&&" .`, ""},
			{"&&amp;&", `"&&&" .`, ""},
			{"&é;", `"&é;" .`, ""},
			{"&amp;", `"&" .`, ""},
			{"&amp;amp;", `"&amp;" .`, ""},
			{"&amp", `"&" .`, noSemicolon},
			{"&ampx", `"&x" .`, noSemicolon},
			{"&ampX;", `"&X;" .`, noSemicolon},
			{"&amp1", `"&1" .`, noSemicolon},
			{"&amp=", `"&=" .`, noSemicolon},
			{"&amp ;", `"& ;" .`, noSemicolon},
			{"&amp&amp;", `"&&" .`, noSemicolon},
			{"&amp/>", `"&/>" .`, noSemicolon},
			{"&AMP;&Amp;", `"&&Amp;" .`, unknownNamed},
			{"&not", `"¬" .`, noSemicolon},
			{"&not;", `"¬" .`, ""},
			{"&noti", `"¬i" .`, noSemicolon},
			{"&notit;", `"¬it;" .`, noSemicolon},
			{"&noti;", `"¬i;" .`, noSemicolon},
			{"&notin", `"¬in" .`, noSemicolon},
			{"&notin;", `"∉" .`, ""},
			{"&notin=", `"¬in=" .`, noSemicolon},
			{"&notinx;", `"¬inx;" .`, noSemicolon},
			{"&notIn;", `"¬In;" .`, noSemicolon},
			{"&not&in;", `"¬&in;" .`, noSemicolon + " " + unknownNamed},
			{"&alpha;", `"α" .`, ""},
			{"&alpha", `"&alpha" .`, ""},
			{"&alpha=", `"&alpha=" .`, ""},
			{"&alpha&beta;", `"&alphaβ" .`, ""},
			{"&alphax;", `"&alphax;" .`, unknownNamed},
			{"&alph;", `"&alph;" .`, unknownNamed},
			{"&sup", `"&sup" .`, ""},
			{"&sup;", `"⊃" .`, ""},
			{"&sup1", `"¹" .`, noSemicolon},
			{"&sup12", `"¹2" .`, noSemicolon},
			{"&sup4;", `"&sup4;" .`, unknownNamed},
			{"&there4;", `"∴" .`, ""},
			{"&thetasym;", `"ϑ" .`, ""},
			{"&thetasymx", `"&thetasymx" .`, ""},
			{"&fjlig;", `"fj" .`, ""},
			{"&acE;&bne;", "\"\u223e\u0333=\u20e5\" .", ""},
			{"&acE", `"&acE" .`, ""},
			{"&zzz", `"&zzz" .`, ""},
			{"&zzz;", `"&zzz;" .`, unknownNamed},
			{"&zzz ;", `"&zzz ;" .`, ""},
			{"&z1Z;", `"&z1Z;" .`, unknownNamed},
			{"&0;", `"&0;" .`, unknownNamed},
			{"&zzz&amp;", `"&zzz&" .`, ""},
			{"&zz\x00", map[int]string{inData: `"&zz\x00" .`, inRCDATA: `"&zz\ufffd" .`}[state], null},
			{"&amp\x00", map[int]string{inData: `"&\x00" .`, inRCDATA: `"&\ufffd" .`}[state], noSemicolon + " " + null},
			{"&lt;b&gt;", `"<b>" .`, ""},
			{"&ltb&gt", `"<b>" .`, noSemicolon + " " + noSemicolon},
			{"&Tab;&NewLine;&nbsp;", `"\t\n\u00a0" .`, ""},
		})
	}
	examples(t, inData, "", []example{
		{"&<a>", `"&" [a] .`, ""},
		{"&zz<a>", `"&zz" [a] .`, ""},
		{"&amp<a>", `"&" [a] .`, noSemicolon},
		{"&alpha<a>", `"&alpha" [a] .`, ""},
	})
}

// value is an attribute's value of each kind, and what is added to the errors of a kind.
func values(t *testing.T, text, want, faults string) {
	t.Helper()
	quoted := example{"<a b='" + text + "'>", `[a b="` + want + `"] .`, faults}
	quoted.in(t, inData, "")
	quoted.text = "<a b=\"" + text + "\">"
	quoted.in(t, inData, "")
	for _, sign := range []string{"=", "<", "'", "\"", "`"} {
		if strings.Contains(text, sign) {
			return
		}
	}
	example{"<a b=" + text + ">", `[a b="` + want + `"] .`, faults}.in(t, inData, "")
	example{"<a b=" + text + " c>", `[a b="` + want + `" c=""] .`, faults}.in(t, inData, "")
}

func TestNamesInValues(t *testing.T) {
	for _, c := range []example{
		{"&", "&", ""},
		{"&;", "&;", ""},
		{"&&amp;", "&&", ""},
		{"x&amp;y", "x&y", ""},
		{"&amp", "&", noSemicolon},
		{"&ampx", "&ampx", ""},
		{"&ampX;", "&ampX;", ""},
		{"&amp1", "&amp1", ""},
		{"&amp=", "&amp=", ""},
		{"&amp=&lt;", "&amp=<", ""},
		{"&amp;=", "&=", ""},
		{"&=", "&=", ""},
		{"&amp-", "&-", noSemicolon},
		{"&amp&lt", "&<", noSemicolon + " " + noSemicolon},
		{"&ampé", "&é", noSemicolon},
		{"&not", "¬", noSemicolon},
		{"&noti", "&noti", ""},
		{"&notit;", "&notit;", ""},
		{"&noti;", "&noti;", ""},
		{"&notin", "&notin", ""},
		{"&notin;", "∉", ""},
		{"&notin-", "&notin-", ""},
		{"&notin=", "&notin=", ""},
		{"&notin&lt;", "&notin<", ""},
		{"&not-in;", "¬-in;", noSemicolon},
		{"&not-", "¬-", noSemicolon},
		{"&not=", "&not=", ""},
		{"&sup1", "¹", noSemicolon},
		{"&sup12", "&sup12", ""},
		{"&alpha", "&alpha", ""},
		{"&alpha=", "&alpha=", ""},
		{"&alpha;", "α", ""},
		{"&alphax;", "&alphax;", unknownNamed},
		{"&zzz", "&zzz", ""},
		{"&zzz;", "&zzz;", unknownNamed},
		{"&zzz=;", "&zzz=;", ""},
		{"&fjlig;", "fj", ""},
		{"?a=1&copy=2&lt=3", "?a=1&copy=2&lt=3", ""},
		{"&lt;c&gt;", "<c>", ""},
		{"&#65;&#x42", "AB", noSemicolon},
		{"&#65x", "Ax", noSemicolon},
		{"&#65=", "A=", noSemicolon},
		{"&#", "&#", "absence-of-digits-in-numeric-character-reference"},
		{"&#;", "&#;", "absence-of-digits-in-numeric-character-reference"},
		{"&#Xg", "&#Xg", "absence-of-digits-in-numeric-character-reference"},
		{"&#0;", "\ufffd", "null-character-reference"},
		{"&amp\x00", "&\ufffd", noSemicolon + " " + null},
	} {
		values(t, c.text, c.want, c.faults)
	}
	// A reference may stand for what would end a value, or is wrong in it.
	examples(t, inData, "", []example{
		{"<a b=\"&quot;\" c='&apos;'>", `[a b=""" c="'"] .`, ""},
		{"<a b=&Tab;&gt;&quot;&num;>", "[a b=\"\t>\"#\"] .", ""},
		{"<a b=&amp=>", `[a b="&amp="] .`, inPlain},
		{"<a b=&=>", `[a b="&="] .`, inPlain},
		{"<a b=&amp/>", `[a b="&/"] .`, noSemicolon},
		{"<a b='&amp\">", ".", noSemicolon + " " + eofInTag},
		{"<a &amp;=1>", `[a &amp;="1"] .`, ""},
		{"<a b=1&amp>&amp;", `[a b="1&"] "&" .`, noSemicolon},
	})
}

// Each name, with and without its semicolon, with what may stand behind it, in texts and in values.
func TestEachName(t *testing.T) {
	for _, name := range []string{"AMP", "amp", "LT", "gt", "QUOT", "quot", "COPY", "nbsp", "laquo", "frac14", "sup2", "Agrave", "THORN", "yuml", "divide"} {
		point, is := entity.Find(name)
		if !is {
			t.Fatal(name)
		}
		text := string(point)
		shownText := quoted(point)
		shownText = shownText[:len(shownText)-1]
		examples(t, inData, "", []example{
			{"&" + name + ";", shownText + `" .`, ""},
			{"&" + name, shownText + `" .`, noSemicolon},
			{"&" + name + "-", shownText + `-" .`, noSemicolon},
			{"&" + name + "=", shownText + `=" .`, noSemicolon},
			{"&" + name + "z", shownText + `z" .`, noSemicolon},
			{"&" + name + "9;", shownText + `9;" .`, noSemicolon},
		})
		values(t, "&"+name+";", text, "")
		values(t, "&"+name, text, noSemicolon)
		values(t, "&"+name+"-", text+"-", noSemicolon)
		values(t, "&"+name+"=", "&"+name+"=", "")
		values(t, "&"+name+"z", "&"+name+"z", "")
		values(t, "&"+name+"9;", "&"+name+"9;", "")
	}
}

func TestNumbers(t *testing.T) {
	const (
		absent  = "absence-of-digits-in-numeric-character-reference"
		outside = "character-reference-outside-unicode-range"
		control = "control-character-reference"
		non     = "noncharacter-character-reference"
	)
	for _, state := range []int{inData, inRCDATA} {
		examples(t, state, "", []example{
			{"&#65;", `"A" .`, ""},
			{"&#65", `"A" .`, noSemicolon},
			{"&#65x;", `"Ax;" .`, noSemicolon},
			{"&#65f", `"Af" .`, noSemicolon},
			{"&#65 ", `"A " .`, noSemicolon},
			{"&#65&#66;", `"AB" .`, noSemicolon},
			{"&#00000000000000000000065;", `"A" .`, ""},
			{"&#x41;&#X41;&#x0000000000000000000041;", `"AAA" .`, ""},
			{"&#x4a;&#X4A;&#xe9;&#XE9;", `"JJéé" .`, ""},
			{"&#x41g", `"Ag" .`, noSemicolon},
			{"&#x41G;", `"AG;" .`, noSemicolon},
			{"&#x1F600;&#128512;", `"😀😀" .`, ""},
			{"&#", `"&#" .`, absent},
			{"&#;", `"&#;" .`, absent},
			{"&#a;", `"&#a;" .`, absent},
			{"&# 65;", `"&# 65;" .`, absent},
			{"&#-1;", `"&#-1;" .`, absent},
			{"&#&#65;", `"&#A" .`, absent},
			{"&##65;", `"&##65;" .`, absent},
			{"&#x", `"&#x" .`, absent},
			{"&#X", `"&#X" .`, absent},
			{"&#x;", `"&#x;" .`, absent},
			{"&#Xg;", `"&#Xg;" .`, absent},
			{"&#xx41;", `"&#xx41;" .`, absent},
			{"&#x&amp;", `"&#x&" .`, absent},
			{"&#0;", `"\ufffd" .`, "null-character-reference"},
			{"&#x0", `"\ufffd" .`, noSemicolon + " null-character-reference"},
			{"&#128;", `"€" .`, control},
			{"&#128", `"€" .`, noSemicolon + " " + control},
			{"&#x9f;", `"Ÿ" .`, control},
			{"&#13;", `"\r" .`, control},
			{"&#10;&#9;&#12;&#32;", `"\n\t\f " .`, ""},
			{"&#xD800;", `"\ufffd" .`, "surrogate-character-reference"},
			{"&#57343;", `"\ufffd" .`, "surrogate-character-reference"},
			{"&#xD7FF;&#xE000;", "\"\ud7ff\ue000\" .", ""},
			{"&#xFDD0;", "\"\ufdd0\" .", non},
			{"&#x10FFFD;", "\"\U0010fffd\" .", ""},
			{"&#x10FFFF;", "\"\U0010ffff\" .", non},
			{"&#1114111;", "\"\U0010ffff\" .", non},
			{"&#x110000;", `"\ufffd" .`, outside},
			{"&#1114112;", `"\ufffd" .`, outside},
			{"&#x110000", `"\ufffd" .`, noSemicolon + " " + outside},
			{"&#x110001;", `"\ufffd" .`, outside},
			{"&#x1100000;", `"\ufffd" .`, outside},
			{"&#4294967361;", `"\ufffd" .`, outside},
			{"&#x100000041;", `"\ufffd" .`, outside},
			{"&#18446744073709551681;", `"\ufffd" .`, outside},
			{"&#x10000000000000041;", `"\ufffd" .`, outside},
			{"&#" + strings.Repeat("9", 100000) + ";", `"\ufffd" .`, outside},
			{"&#x" + strings.Repeat("F", 100000), `"\ufffd" .`, noSemicolon + " " + outside},
			{"&#x" + strings.Repeat("8", 100000) + "0", `"\ufffd" .`, noSemicolon + " " + outside},
		})
	}
	examples(t, inData, "", []example{
		{"&#65<a>", `"A" [a] .`, noSemicolon},
		{"&#<a>", `"&#" [a] .`, absent},
		{"&#60;a>", `"<a>" .`, ""},
		{"&#38;amp;", `"&amp;" .`, ""},
		{"&#65\x00", `"A\x00" .`, noSemicolon + " " + null},
	})
}
