package lexer_test

import (
	"testing"
)

// P9.1: doctypes.

const (
	eofInDoctype = "eof-in-doctype"
	noDocName    = "missing-doctype-name"
	noDocBlank   = "missing-whitespace-before-doctype-name"
	wrongWord    = "invalid-character-sequence-after-doctype-name"
	noPublic     = "missing-doctype-public-identifier"
	noSystem     = "missing-doctype-system-identifier"
	noQuoteP     = "missing-quote-before-doctype-public-identifier"
	noQuoteS     = "missing-quote-before-doctype-system-identifier"
	behindSystem = "unexpected-character-after-doctype-system-identifier"
)

func TestDoctypeNames(t *testing.T) {
	examples(t, inData, "", []example{
		{"<!DOCTYPE html>a", `!html|-|-! "a" .`, ""},
		{"<!doctype html >", `!html|-|-! .`, ""},
		{"<!dOcTyPe\t\n\f HtmlZ\n>", `!htmlz|-|-! .`, ""},
		{"<!DOCTYPE a1/-É\">", `!a1/-É"|-|-! .`, ""},
		{"<!DOCTYPE é>", `!é|-|-! .`, ""},
		{"<!DOCTYPE A>", `!a|-|-! .`, ""},
		{"<!DOCTYPE \x00>", "!\ufffd|-|-! .", null},
		{"<!DOCTYPE a\x00B>", "!a\ufffdb|-|-! .", null},
		{"<!DOCTYPEhtml>", `!html|-|-! .`, noDocBlank},
		{"<!DOCTYPE\x00>", "!\ufffd|-|-! .", noDocBlank + " " + null},
		{"<!DOCTYPE/>", `!/|-|-! .`, noDocBlank},
		{"<!DOCTYPE>", `!-|-|-?! .`, noDocName},
		{"<!DOCTYPE >a", `!-|-|-?! "a" .`, noDocName},
		{"<!DOCTYPE \n\t\f>", `!-|-|-?! .`, noDocName},
		{"<!DOCTYPE", `!-|-|-?! .`, eofInDoctype},
		{"<!DOCTYPE ", `!-|-|-?! .`, eofInDoctype},
		{"<!DOCTYPEA", `!a|-|-?! .`, noDocBlank + " " + eofInDoctype},
		{"<!DOCTYPE a", `!a|-|-?! .`, eofInDoctype},
		{"<!DOCTYPE a ", `!a|-|-?! .`, eofInDoctype},
		{"<!DOCTYPE public>", `!public|-|-! .`, ""},
		{"<!DOCTYPE a><!DOCTYPE><!DOCTYPE b>", `!a|-|-! !-|-|-?! !b|-|-! .`, noDocName},
	})
}

func TestWordsBehindADoctypesName(t *testing.T) {
	examples(t, inData, "", []example{
		{"<!DOCTYPE a b>c", `!a|-|-?! "c" .`, wrongWord},
		{"<!DOCTYPE a b", `!a|-|-?! .`, wrongWord},
		{"<!DOCTYPE a \"b\">", `!a|-|-?! .`, wrongWord},
		{"<!DOCTYPE a \x00>", `!a|-|-?! .`, wrongWord + " " + null},
		{"<!DOCTYPE a b\x00c 'd' \x00", `!a|-|-?! .`, wrongWord + " " + null + " " + null},
		{"<!DOCTYPE a b 'c' \"d\" public />", `!a|-|-?! .`, wrongWord},
		{"<!DOCTYPE a \u017fystem 'b'>", `!a|-|-?! .`, wrongWord},
	})
	for _, word := range []string{"public", "PUBLIC", "pUbLiC", "system", "SYSTEM", "SysteM"} {
		for i := 1; i < len(word); i++ {
			head := "<!DOCTYPE a " + word[:i]
			examples(t, inData, "", []example{
				{head + ">b", `!a|-|-?! "b" .`, wrongWord},
				{head, `!a|-|-?! .`, wrongWord},
				{head + " " + word[i:] + " 'b'>", `!a|-|-?! .`, wrongWord},
				{head + "x>", `!a|-|-?! .`, wrongWord},
				{head + "/>", `!a|-|-?! .`, wrongWord},
				{head + "X>", `!a|-|-?! .`, wrongWord},
				{head + "\x00>", `!a|-|-?! .`, wrongWord + " " + null},
			})
		}
	}
}

func TestPublicIdentifiers(t *testing.T) {
	const noKeyBlank = "missing-whitespace-after-doctype-public-keyword"
	const abrupt = "abrupt-doctype-public-identifier"
	examples(t, inData, "", []example{
		{"<!DOCTYPE a PUBLIC \"B c>", `!a|B c|-?! .`, abrupt},
		{"<!DOCTYPE a PUBLIC \"B'c\">", `!a|B'c|-! .`, ""},
		{"<!DOCTYPE a Public 'B\"c' >", `!a|B"c|-! .`, ""},
		{"<!DOCTYPE a public\n\t\f '/'>", `!a|/|-! .`, ""},
		{"<!DOCTYPE a public \"\">", `!a||-! .`, ""},
		{"<!DOCTYPE a public ''>", `!a||-! .`, ""},
		{"<!DOCTYPE a public\"b\">", `!a|b|-! .`, noKeyBlank},
		{"<!DOCTYPE a public'b'>", `!a|b|-! .`, noKeyBlank},
		{"<!DOCTYPE a public>b", `!a|-|-?! "b" .`, noPublic},
		{"<!DOCTYPE a public >", `!a|-|-?! .`, noPublic},
		{"<!DOCTYPE a public", `!a|-|-?! .`, eofInDoctype},
		{"<!DOCTYPE a public ", `!a|-|-?! .`, eofInDoctype},
		{"<!DOCTYPE a publicb>", `!a|-|-?! .`, noQuoteP},
		{"<!DOCTYPE a public B 'c'>", `!a|-|-?! .`, noQuoteP},
		{"<!DOCTYPE a public/>", `!a|-|-?! .`, noQuoteP},
		{"<!DOCTYPE a public \x00>", `!a|-|-?! .`, noQuoteP + " " + null},
		{"<!DOCTYPE a public\x00", `!a|-|-?! .`, noQuoteP + " " + null},
		{"<!DOCTYPE a public 'b>c", `!a|b|-?! "c" .`, abrupt},
		{"<!DOCTYPE a public '>", `!a||-?! .`, abrupt},
		{"<!DOCTYPE a public 'b", `!a|b|-?! .`, eofInDoctype},
		{"<!DOCTYPE a public \"", `!a||-?! .`, eofInDoctype},
		{"<!DOCTYPE a public '\x00b\x00'>", "!a|\ufffdb\ufffd|-! .", null + " " + null},
		{"<!DOCTYPE a public \"\x00\">", "!a|\ufffd|-! .", null},
	})
}

func TestBothIdentifiers(t *testing.T) {
	const noBlank = "missing-whitespace-between-doctype-public-and-system-identifiers"
	examples(t, inData, "", []example{
		{"<!DOCTYPE a PUBLIC \"b\" 'c'>", `!a|b|c! .`, ""},
		{"<!DOCTYPE a PUBLIC 'b'\n\t\"C\"\f>", `!a|b|C! .`, ""},
		{"<!DOCTYPE a public '' \"\">", `!a||! .`, ""},
		{"<!DOCTYPE a public 'b''c'>", `!a|b|c! .`, noBlank},
		{"<!DOCTYPE a public 'b'\"c\">", `!a|b|c! .`, noBlank},
		{"<!DOCTYPE a public 'b'>", `!a|b|-! .`, ""},
		{"<!DOCTYPE a public 'b' >", `!a|b|-! .`, ""},
		{"<!DOCTYPE a public 'b'", `!a|b|-?! .`, eofInDoctype},
		{"<!DOCTYPE a public 'b' ", `!a|b|-?! .`, eofInDoctype},
		{"<!DOCTYPE a public 'b'c>", `!a|b|-?! .`, noQuoteS},
		{"<!DOCTYPE a public 'b' C 'd'>", `!a|b|-?! .`, noQuoteS},
		{"<!DOCTYPE a public 'b'/", `!a|b|-?! .`, noQuoteS},
		{"<!DOCTYPE a public 'b' \x00>", `!a|b|-?! .`, noQuoteS + " " + null},
		{"<!DOCTYPE a public 'b' system 'c'>", `!a|b|-?! .`, noQuoteS},
		{"<!DOCTYPE a public 'b' 'c", `!a|b|c?! .`, eofInDoctype},
		{"<!DOCTYPE a public 'b' 'c>", `!a|b|c?! .`, "abrupt-doctype-system-identifier"},
		{"<!DOCTYPE a public 'b' 'c'd>", `!a|b|c! .`, behindSystem},
	})
}

func TestSystemIdentifiers(t *testing.T) {
	const noKeyBlank = "missing-whitespace-after-doctype-system-keyword"
	const abrupt = "abrupt-doctype-system-identifier"
	examples(t, inData, "", []example{
		{"<!DOCTYPE a SYSTEM \"B'c\">", `!a|-|B'c! .`, ""},
		{"<!DOCTYPE a System 'B\"c' >", `!a|-|B"c! .`, ""},
		{"<!DOCTYPE a system\n\t\f '/'\n\t\f>", `!a|-|/! .`, ""},
		{"<!DOCTYPE a system \"\">", `!a|-|! .`, ""},
		{"<!DOCTYPE a system\"b\">", `!a|-|b! .`, noKeyBlank},
		{"<!DOCTYPE a system'b'>", `!a|-|b! .`, noKeyBlank},
		{"<!DOCTYPE a system>b", `!a|-|-?! "b" .`, noSystem},
		{"<!DOCTYPE a system >", `!a|-|-?! .`, noSystem},
		{"<!DOCTYPE a system", `!a|-|-?! .`, eofInDoctype},
		{"<!DOCTYPE a system ", `!a|-|-?! .`, eofInDoctype},
		{"<!DOCTYPE a systemb>", `!a|-|-?! .`, noQuoteS},
		{"<!DOCTYPE a system B 'c'>", `!a|-|-?! .`, noQuoteS},
		{"<!DOCTYPE a system/>", `!a|-|-?! .`, noQuoteS},
		{"<!DOCTYPE a system \x00>", `!a|-|-?! .`, noQuoteS + " " + null},
		{"<!DOCTYPE a system 'b>c", `!a|-|b?! "c" .`, abrupt},
		{"<!DOCTYPE a system \">", `!a|-|?! .`, abrupt},
		{"<!DOCTYPE a system 'b", `!a|-|b?! .`, eofInDoctype},
		{"<!DOCTYPE a system '\x00b\x00'>", "!a|-|\ufffdb\ufffd! .", null + " " + null},
		{"<!DOCTYPE a system 'b'", `!a|-|b?! .`, eofInDoctype},
		{"<!DOCTYPE a system 'b' ", `!a|-|b?! .`, eofInDoctype},
		{"<!DOCTYPE a system 'b'c>", `!a|-|b! .`, behindSystem},
		{"<!DOCTYPE a system 'b' 'c'>d", `!a|-|b! "d" .`, behindSystem},
		{"<!DOCTYPE a system 'b' /", `!a|-|b! .`, behindSystem},
		{"<!DOCTYPE a system 'b'\x00>", `!a|-|b! .`, behindSystem + " " + null},
	})
}
