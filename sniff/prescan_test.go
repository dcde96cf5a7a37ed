package sniff_test

import (
	"strings"
	"testing"

	"hornbeam/sniff"
)

// P6.2: Prescan, what stands ahead of a meta tag, and what is none.

func TestPrescanExamples(t *testing.T) {
	tells(t, "<meta charset=utf-8>", utf8)
	tells(t, "<meta charset=utf-16>", utf8)
	tells(t, "<meta content=\"text/html; charset=latin1\">", none)
	tells(t, "<meta content=\"text/html; charset=latin1\" http-equiv=content-type>", windows)
	tells(t, "<meta http-equiv=content-type content=\"text/html; charset=latin1\">", windows)
}

func TestPrescanOfNothing(t *testing.T) {
	for _, b := range [][]byte{nil, {}} {
		if enc, e := sniff.Prescan(b); enc != 0 || e != errNot {
			t.Errorf("Prescan of nothing: %d, %d", enc, e)
		}
	}
}

func TestPrescanOfOtherBytes(t *testing.T) {
	for _, s := range []string{"x", "\x00", "\xff\xfe\xfd", "charset=l9", "meta charset=l9>", "&lt;meta charset=l9>", "<\x00m\x00e\x00t\x00a\x00 \x00c\x00",
		"\xff\xfe<\x00m\x00e\x00t\x00a\x00", "< meta charset=l9>", "<\x00meta charset=l9>", "<\u00e9meta charset=l9>", "<1meta charset=l9>",
		"<html><head><title>x</title></head></html>", "<?xml version='1.0' encoding='iso-8859-15'?>", "@charset \"l9\";"} {
		tells(t, s, none)
		asPlain(t, s+"<meta charset=l9>")
	}
	for c := range 256 {
		for _, n := range []int{1, 2, 100, most, 2 * most} {
			tells(t, strings.Repeat(string([]byte{byte(c)}), n), none)
		}
	}
}

func TestPrescanBehindOtherThings(t *testing.T) {
	for _, ahead := range []string{"", "x", " ", "\n", "<", "<<", "<<<", "< ", "<1", "<>", "<=", "<-", "<\x00", "<\xff", ">", "-->", "=\"'", "&amp;", "\xef\xbb\xbf",
		"<!DOCTYPE html>", "<!doctype html public '-//'>", "<!>", "<!->", "<!x>", "<?>", "<?xml?>", "</>", "</ >", "</1>", "</ a='>",
		"<!-- -->", "<!---->", "<!-->", "<!--->", "<!----->", "<!-- -- > -->", "<!-- <meta charset=cyrillic> -->", "<!--<a b='-->", "<!--->-->",
		"<html>", "<html lang=en>", "<a>", "<A>", "<z>", "<Z/>", "<a/>", "<a/b>", "</a>", "</a b=c>", "<a b>", "<a b=c>", "<a b='>'>", "<a b=\">\">", "<a b='<meta charset=cyrillic>'>",
		"</a b='<meta charset=cyrillic>'>", "<a b=<meta charset=cyrillic>", "<a <meta charset=cyrillic>", "<a<meta charset=cyrillic>", "<a\tb\n=\f'\r>' >",
		"<meta>", "<meta/>", "<meta />", "<meta name=a>", "<metas charset=cyrillic>", "<meta-charset=cyrillic>", "<metacharset=cyrillic>", "</meta charset=cyrillic>",
		"<meta\x0bcharset=cyrillic>", "<meta\x00charset=cyrillic>", "<met a charset=cyrillic>", "<link charset=cyrillic>", "<xmeta charset=cyrillic>",
		"<!meta charset=cyrillic>", "<?meta charset=cyrillic>", "</ meta charset=cyrillic>", "<! <meta charset=cyrillic>", "<? <meta charset=cyrillic>", "</\n<meta charset=cyrillic>"} {
		tells(t, ahead+"<meta charset=l9>", latin9)
		tells(t, ahead, none)
		tells(t, ahead+ahead+"<meta charset=utf-8><meta charset=l9>", utf8)
	}
}

func TestPrescanOfComments(t *testing.T) {
	for _, s := range []string{"<!--", "<!---", "<!-- ", "<!--x", "<!-- -- >", "<!-- - ->", "<!--x->", "<!-- --", "<!- -->", "<!--!>", "<!-- --!>"} {
		want := none
		if s == "<!- -->" { // no comment: it ends at its first >
			want = latin9
		}
		tells(t, s+"<meta charset=l9>", want)
	}
	tells(t, "<!--><meta charset=l9>", latin9)
	tells(t, "<!---><meta charset=l9>", latin9)
	tells(t, "<!----><meta charset=l9>", latin9)
	tells(t, "<!--><meta charset=l9>--><meta charset=utf-8>", latin9)
	tells(t, "<!--x><meta charset=l9>--><meta charset=utf-8>", utf8)
	tells(t, "<!- -><meta charset=l9>", latin9)
	tells(t, "<!-x><meta charset=l9>", latin9)
	tells(t, "<!-<meta charset=l9>", none)
	tells(t, "<!-- <!-- --><meta charset=l9>", latin9)
	tells(t, "<!-- --><!-- <meta charset=l9>", none)
	tells(t, "<!-- \"--><meta charset=l9>", latin9)
	tells(t, "<a b='<!--'><meta charset=l9>", latin9)
	tells(t, "<!--<meta charset=l9>-->", none)
	tells(t, "<meta charset=l9><!--", latin9)
}

func TestPrescanOfDeclarations(t *testing.T) {
	for _, s := range []string{"<!", "</", "<?"} {
		tells(t, s, none)
		tells(t, s+">", none)
		tells(t, s+"<meta charset=l9", none)
		tells(t, s+"<meta charset=l9>", none)
		tells(t, s+"<meta charset='l9'", none)
		tells(t, s+"<meta charset='l9' ", none)
		tells(t, s+"><meta charset=l9>", latin9)
		tells(t, s+" x '>' <meta charset=l9>", latin9)
		tells(t, s+" x=\"><meta charset=l9>", latin9)
		tells(t, s+s+"><meta charset=l9>", latin9)
	}
	tells(t, "</a><meta charset=l9>", latin9)
	tells(t, "</a b='><meta charset=l9>", none)
	tells(t, "</A b='><meta charset=l9>", none)
	tells(t, "</1 b='><meta charset=l9>", latin9)
	tells(t, "<!a b='><meta charset=l9>", latin9)
	tells(t, "<?a b='><meta charset=l9>", latin9)
}

func TestPrescanOfTags(t *testing.T) {
	for c := range 256 {
		b := string([]byte{byte(c)})
		letter := c >= 'a' && c <= 'z' || c >= 'A' && c <= 'Z'
		want := latin9
		if letter { // a tag, whose value has no end
			want = none
		}
		if strings.Contains("!?/", b) {
			want = none
		}
		tells(t, "<"+b+" x='<meta charset=l9>", want)
		want = latin9
		if letter {
			want = none
		}
		tells(t, "</"+b+" x='><meta charset=l9>", want)
		tells(t, "<"+b, none)
		tells(t, "</"+b, none)
	}
	// The name goes to a blank or > alone.
	tells(t, "<a/b='><meta charset=l9>", latin9)
	tells(t, "<a/ b='><meta charset=l9>", none)
	tells(t, "<a='><meta charset=l9>", latin9)
	tells(t, "<a\x0bb='><meta charset=l9>", latin9)
	for _, c := range blanks {
		tells(t, "<a"+string(c)+"b='><meta charset=l9>", none)
		tells(t, "<a"+string(c)+"b='><meta charset=l1>'><meta charset=l9>", latin9)
	}
	tells(t, "<abc", none)
	tells(t, "<abc <meta charset=l9>", none)
	tells(t, "<abc ><meta charset=l9>", latin9)
}

func TestPrescanWhereAMetaTagBegins(t *testing.T) {
	for c := range 256 {
		b := string([]byte{byte(c)})
		want := none
		if strings.Contains(blanks+"/", b) {
			want = latin9
		}
		tells(t, "<meta"+b+"charset=l9>", want)
		tells(t, "<meta"+b, none)
	}
	tells(t, "<meta", none)
	tells(t, "<META", none)
	tells(t, "<met", none)
	tells(t, "<m", none)
	tells(t, "<", none)
	for i := range 1 << 4 {
		word := []byte("meta")
		for j := range word {
			if i>>j&1 == 1 {
				word[j] -= 32
			}
		}
		tells(t, "<"+string(word)+" charset=l9>", latin9)
		tells(t, "<"+string(word)+"/charset=l9>", latin9)
		tells(t, "</"+string(word)+" charset=l9>", none)
		tells(t, "<"+string(word)+"charset=l9>", none)
	}
	tells(t, "<met\u0430 charset=l9>", none)
	tells(t, "<meta\u00a0charset=l9>", none)
}

func TestPrescanGoesOnBehindAMetaTag(t *testing.T) {
	for _, first := range []string{"<meta>", "<meta name=x>", "<meta charset=x>", "<meta charset>", "<meta charset=>", "<meta charset=''>", "<meta content='charset=l1'>",
		"<meta http-equiv=content-type>", "<meta http-equiv=content-type content=x>", "<meta http-equiv=refresh content='charset=l1'>",
		"<meta http-equiv=content-type content='charset=x'>", "<meta content='charset=l1' charset=x>", "<meta x='<meta charset=l1>'>", "<meta x=<meta charset=x>",
		"<meta name=<!-- >", "<meta / / / >"} {
		tells(t, first, none)
		tells(t, first+"<meta charset=l9>", latin9)
		tells(t, first+"<meta name=x>"+first+"<b><meta charset=l9><meta charset=utf-8>", latin9)
	}
	// What one tag says does not count for the next one.
	tells(t, "<meta http-equiv=content-type><meta content='charset=l9'>", none)
	tells(t, "<meta content='charset=l9'><meta http-equiv=content-type>", none)
	tells(t, "<meta charset=x><meta http-equiv=content-type content='charset=l9'>", latin9)
	tells(t, "<meta name=x><meta name=y charset=l9>", latin9)
	// What was taken is not looked at again.
	tells(t, "<meta x='><meta charset=l9>", none)
	tells(t, "<meta x=<meta charset=l9>", latin9)
	tells(t, "<meta <meta charset=l9>", latin9)
	tells(t, "<meta x <meta", none)
}
