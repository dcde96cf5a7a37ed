package sniff_test

import (
	"strings"
	"testing"

	"hornbeam/api"
	"hornbeam/sniff"
)

// P6.4: Choose.

// chooses holds Choose against what is wanted, where it is sure.
func chooses(t *testing.T, s string, end bool, hint string, enc, n int) {
	t.Helper()
	b := []byte(s)
	if gotEnc, gotN, ok := sniff.Choose(b, end, hint); gotEnc != enc || gotN != n || !ok {
		t.Errorf("Choose(%q, %v, %q): %d, %d, %v; want %d, %d", short(s), end, short(hint), gotEnc, gotN, ok, enc, n)
	}
	if string(b) != s {
		t.Errorf("Choose(%q) has changed its bytes", short(s))
	}
}

// waits holds that Choose, without the end, is not sure.
func waits(t *testing.T, s, hint string) {
	t.Helper()
	if enc, n, ok := sniff.Choose([]byte(s), false, hint); enc != 0 || n != 0 || ok {
		t.Errorf("Choose(%q, false, %q): %d, %d, %v; want 0, 0, false", short(s), short(hint), enc, n, ok)
	}
}

// page is a text of n bytes, with letters behind s.
func page(s string, n int) string { return s + strings.Repeat("x", n-len(s)) }

// choice is what a page's beginning and a hint lead to.
type choice struct {
	s, hint string
	enc, n  int
}

var choices = []choice{
	{"\xef\xbb\xbf", "", utf8, 3},
	{"\xfe\xff", "", utf16be, 2},
	{"\xff\xfe", "", utf16le, 2},
	{"\xef\xbb\xbf<meta charset=l9>", "cyrillic", utf8, 3},
	{"\xfe\xff<meta charset=l9>", "cyrillic", utf16be, 2},
	{"\xff\xfe<meta charset=l9>", "cyrillic", utf16le, 2},
	{"\xff\xfe", "no label", utf16le, 2},
	{"\xef\xbb<meta charset=l9>", "cyrillic", cyrillic, 0},
	{"\xef\xbb<meta charset=l9>", "", latin9, 0},
	{" \xef\xbb\xbf<meta charset=l9>", "", latin9, 0},
	{"<meta charset=l9>", "cyrillic", cyrillic, 0},
	{"<meta charset=l9>", " Latin1\n", windows, 0},
	{"<meta charset=l9>", "UTF-8", utf8, 0},
	{"<meta charset=l9>", "utf-16", utf16le, 0},
	{"<meta charset=l9>", "utf-16be", utf16be, 0},
	{"<meta charset=l9>", "x-user-defined", user, 0},
	{"", "iso-8859-15", latin9, 0},
	{"x", "iso-8859-5", cyrillic, 0},
	{"<meta charset=l9>", "", latin9, 0},
	{"<meta charset=l9>", "no label", latin9, 0},
	{"<meta charset=l9>", "utf-8\x00", latin9, 0},
	{"<meta charset=l9>", "utf-8 l1", latin9, 0},
	{"<meta charset=l9>", "charset=utf-8", latin9, 0},
	{"<meta charset=utf-8>", "", utf8, 0},
	{"<meta charset=utf-16>", "", utf8, 0},
	{"<meta charset=utf-16be>", "", utf8, 0},
	{"<meta charset=x-user-defined>", "", windows, 0},
	{"<meta charset=cyrillic>", "\x0butf-8", cyrillic, 0},
	{"<meta http-equiv=content-type content='charset=l9'>", "", latin9, 0},
	{"<meta content='charset=l9'>", "", windows, 0},
	{"<meta charset=x>", "", windows, 0},
	{"", "", windows, 0},
	{"x", "", windows, 0},
	{"x", "no label", windows, 0},
	{"\x00\x00\xfe\xff", "", windows, 0},
	{"<\x00m\x00e\x00t\x00a\x00", "", windows, 0},
}

func TestChooseAtTheEnd(t *testing.T) {
	for _, c := range choices {
		chooses(t, c.s, true, c.hint, c.enc, c.n)
		for _, n := range []int{most - 1, most, most + 1, 3 * most} {
			chooses(t, page(c.s, n), true, c.hint, c.enc, c.n)
		}
	}
}

func TestChooseAheadOfTheEnd(t *testing.T) {
	for _, c := range choices {
		waits(t, c.s, c.hint)
		waits(t, page(c.s, most-1), c.hint)
		for _, n := range []int{most, most + 1, 3 * most} {
			chooses(t, page(c.s, n), false, c.hint, c.enc, c.n)
		}
	}
	for n := range most {
		waits(t, page("", n), "")
	}
}

func TestChooseByTheConstants(t *testing.T) {
	chooses(t, page("", api.MaxSniff), false, "", api.EncWindows, 0)
	waits(t, page("", api.MaxSniff-1), "")
	chooses(t, "", true, "", api.EncWindows, 0)
	if api.ErrNone != errNot || api.MaxSniff != most {
		t.Error("the constants are not the document's")
	}
}

func TestChooseOfNothing(t *testing.T) {
	for _, b := range [][]byte{nil, {}} {
		if enc, n, ok := sniff.Choose(b, true, ""); enc != windows || n != 0 || !ok {
			t.Errorf("Choose of nothing: %d, %d, %v", enc, n, ok)
		}
		if enc, n, ok := sniff.Choose(b, false, "utf-8"); enc != 0 || n != 0 || ok {
			t.Errorf("Choose of nothing yet: %d, %d, %v", enc, n, ok)
		}
	}
}

func TestChooseByLongHints(t *testing.T) {
	const many = 1 << 20
	for _, hint := range []string{strings.Repeat("x", many), strings.Repeat("utf-8 ", many), strings.Repeat("\xff", many), strings.Repeat(" ", many)} {
		chooses(t, "<meta charset=l9>", true, hint, latin9, 0)
		chooses(t, "\xfe\xff", true, hint, utf16be, 2)
		chooses(t, "", true, hint, windows, 0)
	}
	chooses(t, "<meta charset=l9>", true, strings.Repeat(" ", many)+"cyrillic", cyrillic, 0)
}

// P6.5: what stands behind the first MaxSniff bytes changes nothing.

var tails = []string{"", ">", "'", "\"", "'>", "\">", " ", "=", "-->", "<meta charset=cyrillic>", "'><meta charset=cyrillic>", "\xef\xbb\xbf",
	"--><meta charset=cyrillic>", "><meta charset=cyrillic>", "\x00\xff", strings.Repeat("<meta charset=utf-8>", 1<<12)}

func TestNothingBehindTheBoundCounts(t *testing.T) {
	for _, begin := range []string{"", "<meta charset=l9", "<meta charset='l9", "<meta charset='l9'", "<meta charset='l9' ", "<meta charset=l9 x",
		"<meta charset=l9 x='", "<meta charset=l9>", "<meta charset", "<meta charset=", "<meta", "<met", "<!--", "<!", "<!-- --", "</", "<?", "<",
		"<a b='", "<a", "<meta http-equiv=content-type content='charset=l9'", "\xff\xfe"} {
		for _, first := range []bool{true, false} {
			s := page(begin, most)
			if !first {
				s = strings.Repeat("x", most-len(begin)) + begin
			}
			want := asPlain(t, s)
			enc, n, _ := sniff.Choose([]byte(s), true, "")
			hinted := cyrillic
			if n > 0 {
				hinted = enc
			}
			for _, tail := range tails {
				tells(t, s+tail, want)
				chooses(t, s+tail, true, "", enc, n)
				chooses(t, s+tail, false, "", enc, n)
				chooses(t, s+tail, true, "cyrillic", hinted, n)
			}
		}
	}
}
