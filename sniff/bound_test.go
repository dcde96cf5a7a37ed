package sniff_test

import (
	"math/rand"
	"strings"
	"testing"

	"hornbeam/sniff"
)

// P6.2, P6.5: the first MaxSniff bytes alone.

// ending is a page of which s has its last byte at the place n, with rest behind it.
func ending(s string, n int, rest string) string {
	return strings.Repeat("x", n-len(s)) + s + rest
}

func TestBoundAheadAcrossAndBehind(t *testing.T) {
	const meta = "<meta charset=l9>"
	for _, rest := range []string{"", ">", " ", "x", "<meta charset=cyrillic>", strings.Repeat(" ", most)} {
		tells(t, ending(meta, most-1, rest), latin9)
		tells(t, ending(meta, most, rest), latin9)
		tells(t, ending(meta, most+1, rest), none)
		tells(t, ending(meta, most+2, rest), none)
		tells(t, ending(meta, most+len(meta), rest), none)
		tells(t, ending(meta, most+len(meta)+1, rest), none)
	}
	// With a blank or a mark behind it the value is whole ahead of the >.
	for _, meta := range []string{"<meta charset=l9 >", "<meta charset='l9'>", "<meta charset=\"l9\">", "<meta http-equiv=content-type content='charset=l9'>"} {
		tells(t, ending(meta, most, ""), latin9)
		tells(t, ending(meta, most+1, ""), latin9)
		tells(t, ending(meta, most+2, ""), none)
	}
	for n := range 40 {
		asPlain(t, ending(meta, most+n, meta))
	}
}

func TestBoundOfOtherThings(t *testing.T) {
	const meta = "<meta charset='l9'"
	room := most - len(meta)
	for _, s := range []string{"<!-- -->", "<!DOCTYPE html>", "<a b='>'>", "</a>", "<?x>", "<!-->"} {
		inner := s[:len(s)-1]
		fill := strings.Repeat("x", room-len(s))
		tells(t, fill+s+meta, latin9)
		tells(t, fill+s+meta+">", latin9)
		tells(t, fill+"x"+s+meta, none)
		tells(t, strings.Repeat("x", most-len(inner))+inner+">"+meta+">", none)
		tells(t, strings.Repeat("x", most-len(s))+s+meta+">", none)
	}
	// The comment's end is behind the bound.
	tells(t, "<!--"+strings.Repeat(" ", most-6)+"--><meta charset=l9>", none)
	tells(t, "<meta charset=l9 x='"+strings.Repeat(" ", most)+"'>", latin9)
	tells(t, "<meta x='"+strings.Repeat(" ", most)+"' charset=l9>", none)
	tells(t, "<meta"+strings.Repeat(" ", most-5-len("charset=l9>"))+"charset=l9>", latin9)
	tells(t, "<meta"+strings.Repeat(" ", most-4-len("charset=l9>"))+"charset=l9>", none)
}

func TestLongRuns(t *testing.T) {
	const many = 1 << 20
	for _, x := range []string{"<", " ", ">", "=", "/", "'", "\"", "-", "!", "x", "\x00", "\xff", "<meta ", "<meta charset", "<meta/", "<!--", "<!", "</", "<?", "<a ", "<a b='", "-->", "<!-->",
		"<meta charset=x>", "<meta content=charset=l9>", "<meta =", "charset=l9 "} {
		s := strings.Repeat(x, many/len(x))
		tells(t, s, none)
		tells(t, s[:most]+"<meta charset=l9>", none)
		tells(t, "<meta charset=l9>"+s, latin9)
		asPlain(t, s[:500]+"<meta charset=l9>")
		asPlain(t, s[:500]+"'><meta charset=l9>")
	}
	tells(t, "<meta "+strings.Repeat(" ", many), none)
	tells(t, "<meta charset="+strings.Repeat(" ", many)+"l9>", none)
}

// atoms are what exhaustive tests put together.
var atoms = []string{"charset", "=", "l9", "'", "\"", ">", " ", "/"}

// everyText calls f with all texts of up to n atoms.
func everyText(n int, atoms []string, f func(string)) {
	level := []string{""}
	for range n {
		var next []string
		for _, s := range level {
			f(s)
			for _, x := range atoms {
				next = append(next, s+x)
			}
		}
		level = next
	}
	for _, s := range level {
		f(s)
	}
}

func TestEveryShortTag(t *testing.T) {
	found := 0
	everyText(6, atoms, func(s string) {
		if asPlain(t, "<meta "+s) == latin9 {
			found++
		}
	})
	if found < 100 {
		t.Errorf("only %d of the tags told an encoding", found)
	}
}

func TestEveryShortPage(t *testing.T) {
	everyText(6, []string{"<", "!", "-", "/", ">", "a", "'", " "}, func(s string) {
		asPlain(t, s+"<meta charset=l9>")
	})
}

// attrParts are attributes, whole and broken, of which random tags are made.
var attrParts = []string{"charset=l9", "charset='cyrillic'", "CHARSET=utf-16", "charset=x", "charset", "charset=", "http-equiv=content-type", "HTTP-EQUIV=\"Content-Type\"", "http-equiv=x",
	"http-equiv=content-type", "content='charset=l9'", "content=\"text/html; charset='latin1'\"", "content=charset=x-user-defined", "content='charset=x'", "content", "content='charset \"charset=cyrillic\"'", "x", "=x", "x=y", "x='>'", "'", "\"", "/", "=", ">"}

// pageParts are what random pages have beside meta tags.
var pageParts = []string{"<!--", "-->", "<!-->", "<!--->", "<!doctype html>", "<a ", "<a b=c>", "</a>", "</", "<?", "<!", ">", "<", "'", "\"", "x", " ", "\n", "\x0b", "\x00", "\xff", "<meta>", "<meta", "<metax "}

// randomPage is some meta tags with other things between.
func randomPage(r *rand.Rand) string {
	var b strings.Builder
	for range 1 + r.Intn(4) {
		for range r.Intn(3) {
			b.WriteString(pageParts[r.Intn(len(pageParts))])
		}
		b.WriteString([]string{"<meta", "<META", "<Meta", "</meta", "<b"}[r.Intn(5)])
		for range r.Intn(6) {
			b.WriteString([]string{" ", " ", "\n", "/", "\t\f\r", "", "\x0b"}[r.Intn(7)])
			b.WriteString(attrParts[r.Intn(len(attrParts))])
		}
		b.WriteString([]string{">", ">", " >", "/>", "", " "}[r.Intn(6)])
	}
	return b.String()
}

func TestRandomPages(t *testing.T) {
	r := rand.New(rand.NewSource(6))
	seen := map[int]int{}
	for range 150000 {
		seen[asPlain(t, randomPage(r))]++
	}
	for _, enc := range []int{none, utf8, windows, latin9, cyrillic} {
		if seen[enc] < 1000 {
			t.Errorf("only %d of the pages led to %d", seen[enc], enc)
		}
	}
}

func TestRandomPagesAcrossTheBound(t *testing.T) {
	r := rand.New(rand.NewSource(65))
	for range 10000 {
		s := randomPage(r)
		s = strings.Repeat("x", max(0, most-r.Intn(len(s)+1))) + s + randomPage(r)
		enc := asPlain(t, s)
		if len(s) > most {
			tells(t, s[:most], enc)
		}
	}
}

func TestRandomBytes(t *testing.T) {
	r := rand.New(rand.NewSource(66))
	for range 5000 {
		b := make([]byte, r.Intn(2*most))
		r.Read(b)
		asPlain(t, string(b))
		enc, n, ok := sniff.Choose(b, len(b)%2 == 0, "")
		if ok != (len(b)%2 == 0 || len(b) >= most) || !ok && (enc != 0 || n != 0) {
			t.Errorf("Choose of %d bytes: %d, %d, %v", len(b), enc, n, ok)
		}
	}
}
