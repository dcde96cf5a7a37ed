package sniff_test

import (
	"math/rand"
	"strings"
	"testing"
)

// P6.3: Content.

func TestContentPlain(t *testing.T) {
	for s, want := range map[string]string{
		"charset=x":                     "x",
		"text/html; charset=utf-8":      "utf-8",
		"text/html;charset=utf-8":       "utf-8",
		"text/html; charset=utf-8; a=b": "utf-8",
		"text/html; charset=utf-8 a=b":  "utf-8",
		"charset=utf-8;":                "utf-8",
		"charset=utf-8 ":                "utf-8",
		"charset=utf-8\t; x":            "utf-8",
		"charset=a,b":                   "a,b",
		"charset=a/b>c=d":               "a/b>c=d",
		"charset=a\"b\"":                "a\"b\"",
		"charset=a'b":                   "a'b",
		"charset==x":                    "=x",
		"charset = = x":                 "=",
		"charset=charset=x":             "charset=x",
		"xcharset=y":                    "y",
		"charset=\x00\xff":              "\x00\xff",
		"charset=\u00e9\u2003y":         "\u00e9\u2003y",
		"\xffcharset=a\x80b":            "a\x80b",
		"accept-charset=l9; charset=l1": "l9",
		"charset=a charset=b":           "a",
		"charset=no label; charset=l1":  "no",
		"charset=X-User-Defined":        "X-User-Defined",
	} {
		hasContent(t, s, want)
	}
}

func TestContentAnySize(t *testing.T) {
	for i := range 1 << 7 {
		word := []byte("charset")
		for j := range word {
			if i>>j&1 == 1 {
				word[j] -= 32
			}
		}
		hasContent(t, string(word)+"=Ab", "Ab")
		hasContent(t, "x "+string(word)+" = 'A B'", "A B")
	}
	// U+017F and U+212A are letters of other scripts that are s and k where all letters are folded.
	for _, s := range []string{"char\u017fet=x", "cHAR\u017fET=x", "charse\u0442=x", "\u0441harset=x", "charset\u2260x", "charset\uff1dx"} {
		hasNoContent(t, s)
	}
}

func TestContentQuoted(t *testing.T) {
	for s, want := range map[string]string{
		"charset = 'x'":           "x",
		"charset='x'":             "x",
		"charset=\"x\"":           "x",
		"charset=\"a 'b' c\"d":    "a 'b' c",
		"charset='a \"b\" c'd":    "a \"b\" c",
		"charset='a;b c\t>'; x":   "a;b c\t>",
		"charset=' x '":           " x ",
		"charset=''":              "",
		"charset=\"\"":            "",
		"charset=''x":             "",
		"charset='''":             "",
		"charset='x'y'":           "x",
		"charset='\x00\xff'":      "\x00\xff",
		"charset='charset=y'":     "charset=y",
		"charset=\"'\"":           "'",
		"charset=\t\n\f\r \"A\"b": "A",
	} {
		hasContent(t, s, want)
	}
}

func TestContentWithAMarkThatNothingEnds(t *testing.T) {
	for _, s := range []string{"charset='x", "charset=\"x", "charset='", "charset=\"", "charset='x\"", "charset=\"x'", "charset= 'x ; y",
		"charset='x; charset=y", "charset=\"x; charset='y'", "charset=\"charset=x;", "charset='" + strings.Repeat("x\"", 1000)} {
		hasNoContent(t, s)
	}
}

func TestContentWithoutEquals(t *testing.T) {
	for _, s := range []string{"", "x", "charset", "charset ", "charset x", "charset;", "charset:x", "charset 'x'", "charse=x", "charsets=x", "harset=x",
		"char set=x", "charset\x0b=x", "charset\u00a0=x", "charset\x00=x", "charset/=x", "=charset", "text/html", "charsetcharset", "tesrahc=x"} {
		hasNoContent(t, s)
	}
	for s, want := range map[string]string{
		"charset charset=x":           "x",
		"charsetcharset=x":            "x",
		"charset; charset = x":        "x",
		"charset x charset 'charset=": "",
		"charset x; charset='y'":      "y",
		"charset 'charset=y'":         "y'",
		"charset\x0b=x; charset=y":    "y",
		"charscharset=x":              "x",
		"cccharset=x":                 "x",
		"charset charset charset =x":  "x",
	} {
		if want == "" {
			hasNoContent(t, s)
		} else {
			hasContent(t, s, want)
		}
	}
}

func TestContentWithNothingBehind(t *testing.T) {
	for _, s := range []string{"charset=", "charset =", "charset= ", "charset = \t\n\f\r ", "x; charset=", "charset charset="} {
		hasNoContent(t, s)
	}
	// Something stands behind these, with an empty text ahead of it.
	hasContent(t, "charset=;", "")
	hasContent(t, "charset= ;x", "")
}

func TestContentBlanks(t *testing.T) {
	for c := range 256 {
		b := string([]byte{byte(c)})
		s := "charset" + b + "=x"
		if strings.Contains(blanks, b) {
			hasContent(t, s, "x")
			hasContent(t, "charset"+b+b+"="+b+"x"+b+"y", "x")
			hasContent(t, "charset="+b+"'x"+b+"y'", "x"+b+"y")
			continue
		}
		if b != "=" {
			hasNoContent(t, s)
		}
		if b != ";" {
			hasContent(t, "charset=x"+b+"y", "x"+b+"y")
		}
		if b != "'" && b != "\"" && b != ";" {
			hasContent(t, "charset="+b+"y", b+"y")
		}
	}
}

func TestContentOfLongTexts(t *testing.T) {
	const many = 1 << 20
	for _, x := range []string{"charset", "charset ", "c", " ", "=", "\"", "charse", "\xff", "charset;", "CHARSET\n\t "} {
		hasNoContent(t, strings.Repeat(x, many))
		hasContent(t, strings.Repeat(x, many)+"charset=x", "x")
	}
	hasContent(t, "charset"+strings.Repeat(" ", many)+"="+strings.Repeat("\n", many)+"x", "x")
	hasContent(t, "charset="+strings.Repeat("x", many), strings.Repeat("x", many))
	hasContent(t, "charset='"+strings.Repeat(" ", many)+"'", strings.Repeat(" ", many))
	hasNoContent(t, "charset='"+strings.Repeat("\"", many))
}

func TestContentOfRandomTexts(t *testing.T) {
	r := rand.New(rand.NewSource(63))
	parts := []string{"charset", "charset", "charset=", "CharSet", "char", "set", "=", "=", "=", " ", "\t", "\n", "\f", "\r", "\x0b", ";", "'", "'",
		"\"", "\"", "x", "utf-8", "UTF-8", "\xff", "\u00e9", "\x00"}
	found := 0
	for range 300000 {
		var b strings.Builder
		for range r.Intn(10) {
			b.WriteString(parts[r.Intn(len(parts))])
		}
		s := b.String()
		if want, ok := plainContent(s); ok {
			hasContent(t, s, want)
			found++
		} else {
			hasNoContent(t, s)
		}
	}
	if found < 10000 {
		t.Errorf("only %d of the texts had a charset", found)
	}
}
