package quirk_test

import (
	"testing"

	"hornbeam/api"
)

// P10.1: the chapter's examples, and the doctypes that pages have most.
func TestModeOfOrdinaryDoctypes(t *testing.T) {
	isMode(t, withName("html"), noQuirks)
	isMode(t, api.Token{}, quirks)
	isMode(t, withPublic("-//W3C//DTD HTML 4.01//EN"), noQuirks)
	isMode(t, withBoth("-//W3C//DTD HTML 4.01//EN", "http://www.w3.org/TR/html4/strict.dtd"), noQuirks)
	isMode(t, withBoth("-//W3C//DTD XHTML 1.0 Strict//EN", "http://www.w3.org/TR/xhtml1/DTD/xhtml1-strict.dtd"), noQuirks)
	isMode(t, withBoth("-//W3C//DTD XHTML 1.1//EN", "http://www.w3.org/TR/xhtml11/DTD/xhtml11.dtd"), noQuirks)
	isMode(t, withSystem("about:legacy-compat"), noQuirks)
	isMode(t, withSystem("x"), noQuirks)
	isMode(t, withBoth("-//W3C//DTD HTML 4.01 Transitional//EN", "http://www.w3.org/TR/html4/loose.dtd"), limited)
	isMode(t, withPublic("-//W3C//DTD HTML 4.01 Transitional//EN"), quirks)
	isMode(t, withPublic("-//W3C//DTD HTML 4.0 Transitional//EN"), quirks)
	isMode(t, withPublic("-//IETF//DTD HTML//EN"), quirks)
}

// P10.1: what is no doctype, though all else of it is one's.
func TestModeOfOtherTokens(t *testing.T) {
	for _, kind := range []int{1, 2, 3, 4, 5, 6, -1, 256, 1 << 32, minInt, maxInt} {
		isMode(t, api.Token{Kind: kind, Name: "html", Has: named}, quirks)
		isMode(t, api.Token{Kind: kind, Name: "html", Data: limiteds[0], Has: named | public}, quirks)
		isMode(t, api.Token{Kind: kind}, quirks)
	}
}

// P10.1: whatever else it has.
func TestModeOfADoctypeThatForcesQuirks(t *testing.T) {
	for _, x := range []api.Token{withName("html"), withName("x"), withPublic(limiteds[0]), withPublic("-//W3C//DTD HTML 4.01//EN"),
		withSystem("about:legacy-compat"), withBoth(transitionals[0], ""), {}} {
		x.Quirks = true
		isMode(t, x, quirks)
	}
}

// P10.1: a name is html in letters of any size; one that it does not have is none, though its text is there.
func TestModeByTheName(t *testing.T) {
	for _, s := range []string{"html", "HTML", "Html", "hTmL", "htmL"} {
		isMode(t, withName(s), noQuirks)
		isMode(t, api.Token{Name: s}, quirks)
		isMode(t, api.Token{Name: s, Has: public | system, Data: limiteds[0]}, quirks)
	}
	for _, s := range []string{"", "htm", "htmll", "html ", " html", "xhtml", "svg", "htm1", "ht\x00l", "html\x00", "\xe8\xf4\xed\xec",
		"h\u00adtml", "ｈｔｍｌ", "h\xfftml", "(4-,"} {
		isMode(t, withName(s), quirks)
		isMode(t, api.Token{Name: s, Has: named | public, Data: limiteds[0]}, quirks)
	}
}

// P10.1: the identifiers that are told whole lead to quirks as a whole alone.
func TestModeByAWholePublicIdentifier(t *testing.T) {
	for _, whole := range wholes {
		for _, s := range sizes(whole) {
			isMode(t, withPublic(s), quirks)
			isMode(t, withBoth(s, ""), quirks)
			isMode(t, withBoth(s, "about:legacy-compat"), quirks)
		}
		for _, s := range []string{whole + " ", whole + "x", whole + whole, " " + whole, whole[1:], whole[:len(whole)-1]} {
			isMode(t, withPublic(s), noQuirks)
		}
	}
}

// P10.1: a beginning is one as the whole identifier, with anything behind it and in letters of any size.
func TestModeByABeginning(t *testing.T) {
	for _, begin := range olds {
		hasBeginning(t, begin, quirks, quirks)
	}
	for _, begin := range transitionals {
		hasBeginning(t, begin, quirks, limited)
	}
	for _, begin := range limiteds {
		hasBeginning(t, begin, limited, limited)
	}
}

// hasBeginning: alone is the mode without a system identifier, both the one with any.
func hasBeginning(t *testing.T, begin string, alone, both int) {
	t.Helper()
	for _, s := range sizes(begin) {
		for _, behind := range []string{"", "EN", "en", " ", "/", "\x00", "\xff", "é", s} {
			isMode(t, withPublic(s+behind), alone)
			isMode(t, withBoth(s+behind, ""), both)
			isMode(t, withBoth(s+behind, "x"), both)
			isMode(t, withBoth(s+behind, "about:legacy-compat"), both)
			isMode(t, withBoth(s+behind, ibm), quirks)
		}
	}
}

// P10.1: what is one sign short of a beginning, or has another sign ahead of it or in it, is no beginning.
func TestModeByWhatIsNoBeginning(t *testing.T) {
	for _, begin := range beginnings() {
		last := len(begin) - 1
		for _, s := range []string{begin[:last], begin[:last] + " /", begin[:last] + "x", begin[1:], " " + begin, "x" + begin,
			"\x00" + begin, "\n" + begin, begin[:5] + "\xff" + begin[5:], begin[:1] + begin[2:]} {
			isMode(t, withPublic(s), noQuirks)
			isMode(t, withBoth(s, ""), noQuirks)
		}
	}
}

// P10.1: each sign of a beginning counts.
func TestModeByABeginningWithAnotherSign(t *testing.T) {
	for _, begin := range beginnings() {
		for i := range len(begin) {
			for _, c := range []byte{0, begin[i] ^ 1, begin[i] ^ 16, begin[i] ^ 64, begin[i] ^ 128, begin[i] ^ 32} {
				asPlain(t, withPublic(begin[:i]+string([]byte{c})+begin[i+1:]+"EN"))
			}
		}
	}
}

// P10.1: identifiers that it does not have count for nothing, though their texts are there.
func TestModeByIdentifiersThatAreNotThere(t *testing.T) {
	for _, begin := range append(beginnings(), wholes...) {
		isMode(t, api.Token{Name: "html", Data: begin, Has: named}, noQuirks)
		isMode(t, api.Token{Name: "html", Data: begin, Has: named | system}, noQuirks)
	}
	isMode(t, api.Token{Name: "html", System: ibm, Has: named}, noQuirks)
	isMode(t, api.Token{Name: "html", System: ibm, Has: named | public}, noQuirks)
	for _, begin := range transitionals {
		isMode(t, api.Token{Name: "html", Data: begin, System: "x", Has: named | public}, quirks)
		isMode(t, api.Token{Name: "html", Data: begin, System: ibm, Has: named | public}, quirks)
	}
	for _, begin := range limiteds {
		isMode(t, api.Token{Name: "html", Data: begin, System: ibm, Has: named | public}, limited)
	}
}

// P10.1: identifiers that it has and that are empty.
func TestModeByEmptyIdentifiers(t *testing.T) {
	isMode(t, withPublic(""), noQuirks)
	isMode(t, withSystem(""), noQuirks)
	isMode(t, withBoth("", ""), noQuirks)
	isMode(t, withBoth("", ibm), quirks)
}

// P10.1: the system identifier that is told, whole and in letters of any size; as a public one it is none.
func TestModeByTheSystemIdentifier(t *testing.T) {
	for _, s := range sizes(ibm) {
		isMode(t, withSystem(s), quirks)
		isMode(t, withBoth("-//W3C//DTD HTML 4.01//EN", s), quirks)
		isMode(t, withBoth(limiteds[0], s), quirks)
		isMode(t, withPublic(s), noQuirks)
	}
	for _, s := range []string{ibm + " ", " " + ibm, ibm[1:], ibm[:len(ibm)-1], ibm + ibm, "https" + ibm[4:], "HTML", "x", olds[0], wholes[0]} {
		isMode(t, withSystem(s), noQuirks)
		isMode(t, withBoth("x", s), noQuirks)
	}
}

// P10.1: letters beyond a to z have no sizes: the Kelvin sign is no k, the long s no s, the dotless and dotted I no i.
func TestModeByLettersBeyondZ(t *testing.T) {
	for _, begin := range []string{"-//IETF//DTD HTML \u017ftrict//", "-//Micro\u017foft//DTD Internet Explorer 2.0 HTML//",
		"-//IETF//DTD HTML 2.0 \u017ftrict//", "-//Sun Micro\u017fystems Corp.//DTD HotJava HTML//", "-//\u0130ETF//DTD HTML//",
		"-//\u0131ETF//DTD HTML//", "-//Spyglass//DTD HTML 2.0 E\u00d7tended//", "-//W3C//DTD HTML 4.0 Tran\u017fitional//"} {
		isMode(t, withPublic(begin), noQuirks)
		isMode(t, withPublic(begin+"EN"), noQuirks)
	}
	isMode(t, withPublic("-//W3C//DTD HTML 4.01 Frame\u017fet//"), noQuirks)
	isMode(t, withBoth("-//W3C//DTD XHTML 1.0 Frame\u017fet//", ""), noQuirks)
	isMode(t, withPublic("ＨＴＭＬ"), noQuirks)
	isMode(t, withSystem("http://www.ibm.com/data/dtd/v11/ibmxhtml1-tran\u017fitional.dtd"), noQuirks)
	isMode(t, withSystem("http://www.ibm.com/data/dtd/v11/\u0130bmxhtml1-transitional.dtd"), noQuirks)
}

// P10.1: the signs next to A, Z, a and z are no letters.
func TestModeBySignsBesideTheLetters(t *testing.T) {
	for _, s := range []string{"-//IETF//DTD@HTML//", "-//IETF//DTD\x00HTML//", "-O/IETF//DTD HTML//", "\r//IETF//DTD HTML//",
		"-\x0f\x0fIETF//DTD HTML//"} {
		isMode(t, withPublic(s), noQuirks)
	}
	isMode(t, withPublic("\x08\x14\x0d\x0c"), noQuirks)
	isMode(t, withSystem("HTTP\x1a//www.ibm.com/data/dtd/v11/ibmxhtml1-transitional.dtd"), noQuirks)
}

// P10.1: of Has its three bits count, whatever number it is.
func TestModeByOddNumbersOfHas(t *testing.T) {
	for _, more := range []int{0, 8, 16, 1 << 20, 1 << 62, minInt, -8, maxInt &^ 7} {
		isMode(t, api.Token{Name: "html", Has: more | named}, noQuirks)
		isMode(t, api.Token{Name: "html", Has: more}, quirks)
		isMode(t, api.Token{Name: "html", Data: transitionals[1], Has: more | named | public}, quirks)
		isMode(t, api.Token{Name: "html", Data: transitionals[1], Has: more | named | public | system}, limited)
		isMode(t, api.Token{Name: "html", Data: transitionals[1], Has: more | named | system}, noQuirks)
		isMode(t, api.Token{Name: "html", System: ibm, Has: more | named | public}, noQuirks)
	}
	isMode(t, api.Token{Name: "html", Data: transitionals[1], Has: -1}, limited)
	isMode(t, api.Token{Name: "html", Data: transitionals[1], Has: maxInt}, limited)
}

// P10.1: identifiers that are no UTF-8 are texts like others, of bytes.
func TestModeByIdentifiersThatAreNoUTF8(t *testing.T) {
	isMode(t, withPublic("-//IETF//DTD HTML//\xff\xfe\x80"), quirks)
	isMode(t, withPublic("\xff-//IETF//DTD HTML//"), noQuirks)
	isMode(t, withPublic("-//IETF//DTD\xa0HTML//"), noQuirks)
	isMode(t, withPublic("\xc8\xd4\xcd\xcc"), noQuirks)
	isMode(t, withPublic("HTML\xc2"), noQuirks)
	isMode(t, withSystem(ibm+"\xe2\x82"), noQuirks)
	isMode(t, withSystem("\x80"), noQuirks)
}
