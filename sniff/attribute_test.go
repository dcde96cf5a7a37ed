package sniff_test

import (
	"strings"
	"testing"
)

// P6.2: an attribute.

func TestAttributeValues(t *testing.T) {
	for _, s := range []string{"charset=l9", "charset='l9'", "charset=\"l9\"", "charset = l9", "charset\t=\nl9", "charset\f\r =\f\r 'l9'",
		"CHARSET=L9", "ChArSeT='L9'", "charset=' l9 '", "charset=\"\tl9\n\"", "charset='ISO-8859-15'", "charset=\nISO_8859-15"} {
		for _, end := range []string{">", " >", "/>", " />", "\n>", " x>", " x=y>", " x='>'>"} {
			want := latin9
			if strings.HasPrefix(end, "/") && !strings.HasSuffix(s, "'") && !strings.HasSuffix(s, "\"") {
				want = none // a value without marks goes on over a /
			}
			tells(t, "<meta "+s+end, want)
			tells(t, "<meta a b=c "+s+end, want)
			tells(t, "<meta/"+s+end, want)
			tells(t, "<meta / /\n/"+s+end, want)
		}
	}
}

func TestAttributeValuesThatAreOthers(t *testing.T) {
	for _, s := range []string{"charset", "charset=", "charset=''", "charset=\"\"", "charset l9", "charset/=l9", "charset / = l9", "charset='l9\"'", "charset=\"'l9'\"",
		"charset=l9'", "charset=l9\"", "charset=l9/", "charset=/l9", "charset==l9", "charset=;l9", "charset=l9;", "charset=l9,", "charset=`l9`", "charset\x0b=l9",
		"charset=\x0bl9", "charset=l9\x0b", "charset='l9\x0b'", "charset='l 9'", "charset=\x00l9", "xcharset=l9", "charsetx=l9", "char set=l9", "=charset=l9", "\"charset\"=l9",
		"'charset=l9'", "char\u017fet=l9", "chars\u0435t=l9", "charset=\u00a0l9", "charset:l9", "charset=l\uff19"} {
		tells(t, "<meta "+s+">", none)
		tells(t, "<meta "+s+" >", none)
		tells(t, "<meta "+s+"><meta charset=cyrillic>", cyrillic)
	}
}

func TestAttributeValueGoesToItsMark(t *testing.T) {
	tells(t, "<meta x='>' charset=l9>", latin9)
	tells(t, "<meta x=\">\" charset=l9>", latin9)
	tells(t, "<meta x='\"' charset=l9>", latin9)
	tells(t, "<meta x=\"'\" charset=l9>", latin9)
	tells(t, "<meta x=''charset=l9>", latin9)
	tells(t, "<meta x=\"\"charset=l9>", latin9)
	tells(t, "<meta x='/'charset='l9'y>", latin9)
	tells(t, "<meta x=' charset=cyrillic 'charset=l9>", latin9)
	tells(t, "<meta x=a'b charset=l9 c'>", latin9)
	tells(t, "<meta x'=a charset=l9 y'>", latin9)
	tells(t, "<meta x='a' 'b charset=l9>", latin9)
}

func TestAttributeValueWithoutMarks(t *testing.T) {
	tells(t, "<meta x=/ charset=l9>", latin9)
	tells(t, "<meta x=/charset=cyrillic charset=l9>", latin9)
	tells(t, "<meta x=y/charset=cyrillic charset=l9>", latin9)
	tells(t, "<meta x=y=z charset=l9>", latin9)
	tells(t, "<meta x=y\x0bcharset=cyrillic charset=l9>", latin9)
	tells(t, "<meta x=<!-- charset=l9>", latin9)
	tells(t, "<meta x= charset=l9>", none)
	tells(t, "<meta x=\n\n\ncharset=l9>", none)
	tells(t, "<meta x= charset=cyrillic charset=l9>", latin9)
}

func TestAttributeWithNoValueAtTheEndOfATag(t *testing.T) {
	tells(t, "<meta x=><meta charset=l9>", latin9)
	tells(t, "<meta x= ><meta charset=l9>", latin9)
	tells(t, "<meta x=>charset=l9>", none)
	tells(t, "<meta charset=l9 x=>", latin9)
	tells(t, "<meta charset=l9 x>", latin9)
	tells(t, "<meta charset=><meta charset=l9>", latin9)
	tells(t, "<meta charset=l9 charset=>", latin9)
	tells(t, "<meta charset= charset=l9>", none)
	tells(t, "<a x=><meta charset=l9>", latin9)
	tells(t, "<a x= ><meta charset=l9>", latin9)
}

func TestAttributeNames(t *testing.T) {
	for _, name := range []string{"x", "X", "x-y", "x:y", "\"", "'", "'x", "\"x", "<", "<x", "<!--", "--", "\x00", "\x0b", "\xff", "\u00e9", "!", "?", "=", "=x", "=\"", "&", ";"} {
		tells(t, "<meta "+name+" charset=l9>", latin9)
		tells(t, "<meta "+name+"=y charset=l9>", latin9)
		tells(t, "<meta "+name+"='y>' charset=l9>", latin9)
		tells(t, "<meta "+name+"/charset=l9>", latin9)
		tells(t, "<meta "+name+" = y charset=l9>", latin9)
		tells(t, "<meta charset=l9 "+name+">", latin9)
	}
}

func TestAttributeNameThatBeginsWithEquals(t *testing.T) {
	tells(t, "<meta =charset=cyrillic charset=l9>", latin9)
	tells(t, "<meta =charset charset=l9>", latin9)
	tells(t, "<meta = charset=l9>", latin9)
	tells(t, "<meta ='charset=cyrillic' charset=l9>", latin9)
	tells(t, "<meta =x='charset=cyrillic' charset=l9>", latin9)
	// A name of one =, whose value is behind the second one.
	tells(t, "<meta == charset=l9>", none)
	tells(t, "<meta =='charset=cyrillic' charset=l9>", latin9)
	tells(t, "<meta ==charset=cyrillic charset=l9>", latin9)
	tells(t, "<meta === charset=l9>", latin9)
	tells(t, "<meta = = charset=l9>", none)
	tells(t, "<meta =><meta charset=l9>", latin9)
	tells(t, "<meta ==><meta charset=l9>", latin9)
	tells(t, "<a ='><meta charset=l9>", latin9)
	tells(t, "<a =='><meta charset=l9>", none)
	tells(t, "<a x =='><meta charset=l9>", latin9)
}

func TestAttributeBlanks(t *testing.T) {
	// Where * stands a blank leads to an encoding, or to none, and another byte does not.
	toOne := []string{"<meta x*charset=l9>", "<meta x=y*charset=l9>", "<meta x=''*charset=l9>", "<meta charset*=l9>", "<meta charset=*l9>", "<meta charset=l9*>",
		"<meta charset='*l9'>", "<meta charset='l9*'>", "<meta charset=l9*"}
	toNone := []string{"<a*x='><meta charset=l9>", "<a x=*'><meta charset=l9>", "</a*x='><meta charset=l9>"}
	for c := range 256 {
		b := string([]byte{byte(c)})
		for _, s := range append(toOne, toNone...) {
			asPlain(t, strings.Replace(s, "*", b, 1))
		}
		if strings.Contains("/>='\"", b) { // these have meanings of their own, which the plain way knows
			continue
		}
		one, other := none, latin9
		if strings.Contains(blanks, b) {
			one, other = latin9, none
		}
		for _, s := range toOne {
			tells(t, strings.Replace(s, "*", b, 1), one)
		}
		for _, s := range toNone {
			tells(t, strings.Replace(s, "*", b, 1), other)
		}
	}
}

// P6.2: where the bytes end.

func TestBytesEndWithinAnAttribute(t *testing.T) {
	for _, s := range []string{"charset=l9", "charset='l9", "charset=\"l9", "charset=\"l9'", "charset", "charset=", "charset= ", "charset=\n\n", "charset =", "CHARSET = L9",
		"charset='", "charset=\"", "=", "==", "x", "x=y", "x='y"} {
		tells(t, "<meta "+s, none)
		tells(t, "<meta/"+s, none)
		// What was taken ahead of it counts.
		tells(t, "<meta http-equiv=content-type content='charset=cyrillic' "+s, cyrillic)
		tells(t, "<meta content='charset=cyrillic' "+s, none)
	}
	for _, s := range []string{"x", "x=", "x=y", "x= ", "x='", "x='y", "x=\"y'>", "=", "==", "'", "\""} {
		tells(t, "<meta charset=l9 "+s, latin9)
		tells(t, "<meta charset='l9' "+s, latin9)
		tells(t, "<meta charset=x "+s, none)
	}
}

func TestBytesEndBetweenAttributes(t *testing.T) {
	for _, end := range []string{"", " ", "\n", "/", " / ", "\t\n\f\r ", " x ", " x\n", " x/", " x=y ", " x='y'"} {
		tells(t, "<meta charset='l9'"+end, latin9)
		tells(t, "<meta charset=\"l9\""+end, latin9)
		if end != "" && end != "/" {
			tells(t, "<meta charset=l9"+end, latin9)
		}
		tells(t, "<meta http-equiv=content-type content='charset=l9'"+end, latin9)
		tells(t, "<meta content='charset=l9'"+end, none)
		tells(t, "<meta"+end, none)
	}
	// A name with a blank behind it is an attribute without a value: here a charset that is none.
	tells(t, "<meta http-equiv=content-type content='charset=l9' charset ", none)
	tells(t, "<meta http-equiv=content-type content='charset=l9' charset/", none)
	tells(t, "<meta http-equiv=content-type content='charset=l9' charset", latin9)
	tells(t, "<meta http-equiv=content-type content='charset=l9' charset=", latin9)
}

func TestBytesEndWithinATag(t *testing.T) {
	for _, s := range []string{"<a", "<a ", "<a b", "<a b=", "<a b=c", "<a b='", "<a b='c'", "</a", "</a b", "</a b='c", "</", "<!", "<?", "<!-", "<!--", "<!---", "<!-- -", "<!-- --", "<"} {
		tells(t, s, none)
		tells(t, "<meta charset=x>"+s, none)
		tells(t, "<meta charset=l9>"+s, latin9)
	}
	whole := "<!doctype html><!-- x --><a b='c' d=\"e\" f=g h></a><meta http-equiv=Content-Type content=\"text/html; charset='l9'\"><?php ?>"
	for i := range len(whole) + 1 {
		want := none
		if i >= strings.Index(whole, "\"><?")+1 {
			want = latin9
		}
		tells(t, whole[:i], want)
	}
}
