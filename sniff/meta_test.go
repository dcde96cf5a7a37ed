package sniff_test

import (
	"strings"
	"testing"

	"hornbeam/api"
	"hornbeam/label"
	"hornbeam/sniff"
)

// P6.2: what the attributes of a meta tag tell.

// meant are labels, and the encoding that a page means that names them.
var meant = map[string]int{
	"utf-8": utf8, "UTF8": utf8, "utf-16": utf8, "utf-16le": utf8, "UTF-16BE": utf8, "unicode": utf8, "unicodefffe": utf8,
	"latin1": windows, "windows-1252": windows, "ascii": windows, "ISO-8859-1": windows, "x-user-defined": windows, "X-User-Defined": windows,
	"l9": latin9, "iso-8859-15": latin9, "cyrillic": cyrillic, "ISO-8859-5": cyrillic, "iso-ir-144": cyrillic,
}

func TestMetaCharset(t *testing.T) {
	for s, want := range meant {
		for _, x := range []string{s, lower(s), upper(s), "'" + s + "'", "\"" + s + "\"", "' " + s + "\n'"} {
			tells(t, "<meta charset="+x+">", want)
			tells(t, "<META CHARSET = "+x+" >", want)
			tells(t, "<meta name=y charset="+x+" name=z>", want)
			tells(t, "<meta charset="+x+" http-equiv=content-type>", want)
			tells(t, "<meta charset="+x+" http-equiv=refresh content='0;url=x'>", want)
		}
	}
}

func TestMetaContent(t *testing.T) {
	for s, want := range meant {
		for _, x := range []string{"content=charset=" + s, "content='text/html; charset=" + s + "'", "content=\"charset=" + s + "\"", "content=\"charset='" + s + "'\"", "content='charset=\"" + s + "\"'",
			"CONTENT='TEXT/HTML;CHARSET = " + s + " ; x'", "content='charset; charset=" + s + "'"} {
			for _, pragma := range []string{"http-equiv=content-type", "HTTP-EQUIV='Content-Type'", "http-equiv = \"CONTENT-TYPE\""} {
				tells(t, "<meta "+pragma+" "+x+">", want)
				tells(t, "<meta "+x+" "+pragma+">", want)
				tells(t, "<meta a=b "+x+" c=d "+pragma+" e=f>", want)
			}
			tells(t, "<meta "+x+">", none)
			tells(t, "<meta "+x+" http-equiv=refresh>", none)
		}
	}
}

func TestMetaByTheConstants(t *testing.T) {
	for enc := range 7 {
		name, e := label.Name(enc)
		if got, e2 := sniff.Prescan([]byte("<meta charset='" + name + "'>")); got != label.Meta(enc) || e != api.OK || e2 != api.OK {
			t.Errorf("Prescan of %s: %d, %d", name, got, e2)
		}
	}
	if enc, e := sniff.Prescan([]byte("<meta>")); enc != 0 || e != api.ErrNone {
		t.Errorf("Prescan of an empty meta tag: %d, %d", enc, e)
	}
}

func TestMetaContentWithoutItsPragma(t *testing.T) {
	for _, pragma := range []string{"", "http-equiv", "http-equiv=''", "http-equiv=refresh", "http-equiv=content", "http-equiv=content-typ", "http-equiv=content-types",
		"http-equiv='content type'", "http-equiv=' content-type'", "http-equiv='content-type '", "http-equiv=content_type", "http-equiv=content-type;", "httpequiv=content-type", "http-equi=content-type",
		"http-equivx=content-type", "x=http-equiv=content-type", "name=content-type", "content-type", "http-equiv content-type", "http-equiv=refresh http-equiv=content-type", "http-equiv http-equiv=content-type"} {
		tells(t, "<meta content='charset=l9' "+pragma+" >", none)
		tells(t, "<meta "+pragma+" content='charset=l9'>", none)
		tells(t, "<meta "+pragma+" charset=l9>", latin9)
		tells(t, "<meta "+pragma+" content='charset=l9' charset=cyrillic>", cyrillic)
	}
	tells(t, "<meta content='charset=l9' http-equiv=>", none)
	tells(t, "<meta content='charset=l9' http-equiv=content-type", none)
	tells(t, "<meta content='charset=l9' http-equiv='content-type>", none)
}

func TestMetaContentOfOtherThings(t *testing.T) {
	for _, x := range []string{"content", "content=", "content=''", "content=text/html", "content=l9", "content='text/html; l9'", "content=charset", "content=charset=", "content='charset= '", "content='charset l9'", "content='charset:l9'",
		"content=charset=x", "content='charset=x; charset=l9'", "content='charset=l9x'", "content=\"charset='l9\"", "content='charset=\"l9'", "content='charset=;l9'", "content=\"charset=''\"", "content='charset\x0b=l9'",
		"content='char\u017fet=l9'", "contents='charset=l9'", "content=\"charset='l 9'\""} {
		tells(t, "<meta http-equiv=content-type "+x+">", none)
		tells(t, "<meta "+x+" http-equiv=content-type>", none)
		tells(t, "<meta http-equiv=content-type "+x+" charset=l9>", latin9)
		tells(t, "<meta charset=l9 "+x+">", latin9)
	}
	// Content's own marks and blanks, within an attribute's.
	tells(t, "<meta http-equiv=content-type content=\"charset=' l9 '\">", latin9)
	tells(t, "<meta http-equiv=content-type content=\"charset = l9\tx\">", latin9)
	tells(t, "<meta http-equiv=content-type content=charset='l9'>", latin9)
	tells(t, "<meta http-equiv=content-type content=charset=\"l9\"x>", latin9)
	tells(t, "<meta http-equiv=content-type content=charset=l9;x>", latin9)
}

func TestMetaCharsetAndContent(t *testing.T) {
	pragma, content := "http-equiv=content-type", "content='charset=l9'"
	for s, want := range map[string]int{
		"charset=cyrillic " + content:                      cyrillic,
		content + " charset=cyrillic":                      cyrillic,
		pragma + " charset=cyrillic " + content:            cyrillic,
		pragma + " " + content + " charset=cyrillic":       cyrillic,
		content + " charset=cyrillic " + pragma:            cyrillic,
		"charset=cyrillic " + content + " " + pragma:       cyrillic,
		"charset=x " + content:                             none,
		content + " charset=x":                             none,
		pragma + " charset=x " + content:                   none,
		pragma + " " + content + " charset=x":              none,
		content + " charset=x " + pragma:                   none,
		"charset " + content + " " + pragma:                none,
		content + " " + pragma + " charset":                none,
		content + " " + pragma + " charset=''":             none,
		"charset=cyrillic content=x":                       cyrillic,
		"content=x charset=cyrillic":                       cyrillic,
		"charset=utf-16 " + content + " " + pragma:         utf8,
		"charset=x-user-defined " + content + " " + pragma: windows,
	} {
		tells(t, "<meta "+s+">", want)
		tells(t, "<meta "+s+" x=y>", want)
		tells(t, "<meta "+s+"><meta charset=utf-8>", max(want, utf8))
	}
}

func TestMetaSameNameTwice(t *testing.T) {
	pragma := "http-equiv=content-type "
	for s, want := range map[string]int{
		"charset=l9 charset=cyrillic":                                       latin9,
		"charset=l9 CHARSET=cyrillic":                                       latin9,
		"Charset=l9 cHARSET=cyrillic charset=utf-8":                         latin9,
		"charset=x charset=l9":                                              none,
		"charset charset=l9":                                                none,
		"charset='' charset=l9":                                             none,
		"charset=l9 charset=x":                                              latin9,
		"charset=l9 charset":                                                latin9,
		pragma + "content='charset=l9' content='charset=cyrillic'":          latin9,
		pragma + "content='charset=x' content='charset=cyrillic'":           none,
		pragma + "content=x content='charset=cyrillic'":                     none,
		pragma + "content content='charset=cyrillic'":                       none,
		pragma + "content=x content='charset=cyrillic' charset=l9":          latin9,
		pragma + "http-equiv=refresh content='charset=l9'":                  latin9,
		pragma + "content='charset=l9' http-equiv=refresh":                  latin9,
		"http-equiv=refresh " + pragma + "content='charset=l9'":             none,
		"http-equiv " + pragma + "content='charset=l9'":                     none,
		"HTTP-EQUIV=x " + pragma + "content='charset=l9'":                   none,
		"charset=x " + pragma + "content='charset=l9' charset=cyrillic":     none,
		"x=charset x=y x=z charset=l9":                                      latin9,
		pragma + "content='charset=l9' charset=cyrillic content=charset=l1": cyrillic,
	} {
		tells(t, "<meta "+s+" >", want)
	}
	// Each tag has its own.
	tells(t, "<meta charset=x><meta charset=l9>", latin9)
	tells(t, "<a charset=cyrillic><meta charset=l9>", latin9)
}

func TestMetaWithManyAttributes(t *testing.T) {
	tells(t, "<meta "+strings.Repeat("x ", 500)+"charset=l9>", latin9)
	tells(t, "<meta charset=l9 "+strings.Repeat("charset=x ", 90)+">", latin9)
	tells(t, "<meta charset=x "+strings.Repeat("charset=l9 ", 90)+">", none)
}
