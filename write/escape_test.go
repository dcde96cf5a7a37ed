package write_test

import (
	"math/rand"
	"strings"
	"testing"

	"hornbeam/write"
)

// P17.1

// escaped tells what Escape should, by the library's way to replace bytes.
func escaped(s string, attr bool) string {
	if attr {
		return strings.NewReplacer("&", "&amp;", "\xc2\xa0", "&nbsp;", `"`, "&quot;").Replace(s)
	}
	return strings.NewReplacer("&", "&amp;", "\xc2\xa0", "&nbsp;", "<", "&lt;", ">", "&gt;").Replace(s)
}

func checkEscape(t *testing.T, s string, attr bool, want string) {
	t.Helper()
	if got := write.Escape(s, attr); got != want {
		if len(got)+len(want) > 10000 {
			t.Fatalf("Escape, %v: %d bytes; want others, %d bytes", attr, len(got), len(want))
		}
		t.Fatalf("Escape(%q, %v): %q; want %q", s, attr, got, want)
	}
}

func checkBoth(t *testing.T, s string) {
	t.Helper()
	checkEscape(t, s, false, escaped(s, false))
	checkEscape(t, s, true, escaped(s, true))
}

func TestEscapeRows(t *testing.T) {
	for _, row := range []struct{ s, value, other string }{
		{"", "", ""},
		{"abc", "abc", "abc"},
		{"&", "&amp;", "&amp;"},
		{`"`, "&quot;", `"`},
		{"<", "<", "&lt;"},
		{">", ">", "&gt;"},
		{"'", "'", "'"},
		{"\u00a0", "&nbsp;", "&nbsp;"},
		{"\xc2\xa0", "&nbsp;", "&nbsp;"},
		{"\xc2", "\xc2", "\xc2"},
		{"\xa0", "\xa0", "\xa0"},
		{"\xa0\xc2", "\xa0\xc2", "\xa0\xc2"},
		{"\xc2a\xa0", "\xc2a\xa0", "\xc2a\xa0"},
		{"\xc2\xc2\xa0\xa0", "\xc2&nbsp;\xa0", "\xc2&nbsp;\xa0"},
		{"\xc2&\xa0", "\xc2&amp;\xa0", "\xc2&amp;\xa0"},
		{"\xe2\xc2\xa0", "\xe2&nbsp;", "\xe2&nbsp;"}, // behind a beginning that is cut
		{"\xf0\x9f\xc2\xa0x", "\xf0\x9f&nbsp;x", "\xf0\x9f&nbsp;x"},
		{"\xe0\x82\xa0", "\xe0\x82\xa0", "\xe0\x82\xa0"}, // the same code point in more bytes than it may have
		{"\xed\xa0\x80", "\xed\xa0\x80", "\xed\xa0\x80"}, // D800
		{"\xff\xfe\x80", "\xff\xfe\x80", "\xff\xfe\x80"},
		{"\ufffd\xff", "\ufffd\xff", "\ufffd\xff"},
		{"\xff<\"&\xff", "\xff<&quot;&amp;\xff", "\xff&lt;\"&amp;\xff"},
		{"\u20a0\u0420\u00c2\u00a1\u009f", "\u20a0\u0420\u00c2\u00a1\u009f", "\u20a0\u0420\u00c2\u00a1\u009f"}, // A0 within others
		{"&amp;", "&amp;amp;", "&amp;amp;"},
		{"&lt;&gt;&quot;&nbsp;", "&amp;lt;&amp;gt;&amp;quot;&amp;nbsp;", "&amp;lt;&amp;gt;&amp;quot;&amp;nbsp;"},
		{"&#60;", "&amp;#60;", "&amp;#60;"},
		{"&&", "&amp;&amp;", "&amp;&amp;"},
		{`<a b="c">`, `<a b=&quot;c&quot;>`, `&lt;a b="c"&gt;`},
		{"\x00\t\n\r\x7f", "\x00\t\n\r\x7f", "\x00\t\n\r\x7f"},
		{"\U0001f600&\u4e2d", "\U0001f600&amp;\u4e2d", "\U0001f600&amp;\u4e2d"},
		{"\u2002\u200b\u202f\ufeff ", "\u2002\u200b\u202f\ufeff ", "\u2002\u200b\u202f\ufeff "}, // other blanks
	} {
		checkEscape(t, row.s, true, row.value)
		checkEscape(t, row.s, false, row.other)
	}
}

func TestEscapeOfEachCodePoint(t *testing.T) {
	for c := range rune(0x110000) {
		s := string(c)
		switch c {
		case '&', '"', '<', '>', 0xa0:
			checkBoth(t, s)
		default:
			checkEscape(t, s, false, s)
			checkEscape(t, s, true, s)
		}
	}
}

func TestEscapeOfEachTwoBytes(t *testing.T) {
	value := strings.NewReplacer("&", "&amp;", "\xc2\xa0", "&nbsp;", `"`, "&quot;")
	other := strings.NewReplacer("&", "&amp;", "\xc2\xa0", "&nbsp;", "<", "&lt;", ">", "&gt;")
	for i := range 1 << 16 {
		s := string([]byte{byte(i >> 8), byte(i)})
		checkEscape(t, s, true, value.Replace(s))
		checkEscape(t, s, false, other.Replace(s))
	}
}

// signs are bytes of which all short texts are made, those that begin a code point and go on with one among them.
const signs = "&<>\"'a;\x00\x80\x82\xa0\xc2\xc3\xe2\xf0\xff"

func TestEscapeOfShortTexts(t *testing.T) {
	var grow func(s string, left int)
	grow = func(s string, left int) {
		checkBoth(t, s)
		if left == 0 {
			return
		}
		for i := range len(signs) {
			grow(s+signs[i:i+1], left-1)
		}
	}
	grow("", 3)
}

func TestEscapeOfRandomTexts(t *testing.T) {
	r := rand.New(rand.NewSource(17))
	for range 20000 {
		var s strings.Builder
		for range r.Intn(30) {
			s.WriteByte(signs[r.Intn(len(signs))])
		}
		checkBoth(t, s.String())
	}
}

func TestEscapeOfLongTexts(t *testing.T) {
	for _, s := range []string{"x", "&", "<", `"`, "\u00a0", "\xc2", "\xff", "<a>&\"\u00a0"} {
		checkBoth(t, strings.Repeat(s, 2*maxText))
	}
}
