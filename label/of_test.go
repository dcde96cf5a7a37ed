package label_test

import (
	"math/rand"
	"slices"
	"strings"
	"testing"
)

// P4.1: Of.

func TestOfEachLabel(t *testing.T) {
	for enc, x := range table {
		for _, s := range x.labels {
			hasLabel(t, s, enc)
		}
	}
	if n := len(encodings); n != 39 {
		t.Errorf("the table has %d labels", n)
	}
}

func TestOfExamples(t *testing.T) {
	hasLabel(t, " Latin1\n", 3)
	hasLabel(t, " Latin1", 3)
	isNoLabel(t, "x")
}

func TestOfCapitals(t *testing.T) {
	for s, enc := range encodings {
		hasLabel(t, strings.ToUpper(s), enc)
		hasLabel(t, strings.ToUpper(s[:1])+s[1:], enc)
		for i := range len(s) {
			hasLabel(t, s[:i]+strings.ToUpper(s[i:i+1])+s[i+1:], enc)
			hasLabel(t, s[:i]+strings.ToUpper(s[i:]), enc)
		}
	}
}

// endings are all texts of up to two bytes that are left out at the ends, and some longer ones.
func endings() []string {
	all := []string{"", ends, " \r\n\t\f ", strings.Repeat("\n", 1000)}
	for _, c := range ends {
		all = append(all, string(c))
		for _, d := range ends {
			all = append(all, string(c)+string(d))
		}
	}
	return all
}

func TestOfBothEnds(t *testing.T) {
	for s, enc := range encodings {
		for _, ahead := range endings() {
			for _, behind := range endings() {
				hasLabel(t, ahead+s+behind, enc)
			}
		}
	}
}

func TestOfEachByteAtTheEnds(t *testing.T) {
	for s := range encodings {
		for c := range 256 {
			b := string([]byte{byte(c)})
			for _, x := range []string{b + s, s + b, b + s + b, " " + b + s, s + b + " ", b + " " + s, s + " " + b} {
				asPlain(t, x)
			}
		}
	}
	for _, b := range []string{"\x0b", "\x00", "\x1c", "\x7f", "\u0085", "\u00a0", "\u2003", "\u2028", "\u3000", "\ufeff", "\x85", "\xa0", ".", ",", "\"", "'"} {
		isNoLabel(t, b+"utf-8")
		isNoLabel(t, "utf-8"+b)
		isNoLabel(t, " "+b+" utf-8 "+b+" ")
	}
}

func TestOfNothing(t *testing.T) {
	for _, s := range endings() {
		isNoLabel(t, s)
	}
	isNoLabel(t, strings.Repeat(ends, 1<<18))
}

func TestOfEndsWithin(t *testing.T) {
	for s := range encodings {
		for i := 1; i < len(s); i++ {
			for _, c := range ends {
				isNoLabel(t, s[:i]+string(c)+s[i:])
			}
		}
	}
	isNoLabel(t, "utf 8")
	isNoLabel(t, "iso 8859-1")
}

func TestOfOneByteLessOrMoreOrOther(t *testing.T) {
	for s := range encodings {
		for i := range len(s) {
			asPlain(t, s[:i]+s[i+1:])
			asPlain(t, s[:i])
			asPlain(t, s[i:])
			for c := range 256 {
				b := string([]byte{byte(c)})
				asPlain(t, s[:i]+b+s[i:])
				asPlain(t, s[:i]+b+s[i+1:])
			}
		}
	}
	for _, s := range []string{"utf-8x", "xutf-8", "utf-", "tf-8", "utf-88", "utf_8", "utf-32", "iso-8859-2", "iso-8859-",
		"windows-1251", "latin2", "l", "l2", "1", "-", "unicodefef", "unicodefffe0", "x-user-define", "x-user-defined2"} {
		isNoLabel(t, s)
	}
}

func TestOfLabelsJoined(t *testing.T) {
	for _, x := range labels() {
		for _, y := range labels() {
			for _, between := range []string{"", " ", "\n", ",", ", ", "\x00", "|", "/"} {
				asPlain(t, x+between+y)
			}
		}
	}
	for _, x := range table {
		for _, between := range []string{" ", ", ", ",", "\n"} {
			asPlain(t, strings.Join(x.labels, between))
			asPlain(t, x.name+between+strings.Join(x.labels, between))
		}
	}
	isNoLabel(t, strings.Join(labels(), " "))
}

// capitals leaves other letters than a to z as they are: strings.ToUpper has an S for U+017F.
func capitals(s string) string {
	return strings.Map(func(c rune) rune {
		if c >= 'a' && c <= 'z' {
			return c - 'a' + 'A'
		}
		return c
	}, s)
}

func TestOfLettersBeyondAToZ(t *testing.T) {
	// U+017F and U+212A turn into s and k where all letters are folded, U+0130 and U+0131 into i.
	for _, s := range []string{"a\u017fcii", "u\u017f-ascii", "\u0130bm819", "\u0131bm819", "\u0130so-8859-1", "\u0131so-8859-1",
		"windows\u20101252", "utf\u20118", "utf\uff0d8", "ｕｔｆ-8", "utf-８", "UTF-⁸", "\u0441yrillic", "cyrillıc", "ľatin1",
		"látin1", "lat\u0130n1", "Ｌ1", "ł1", "\u212a", "кириллица", "юникод"} {
		isNoLabel(t, s)
		isNoLabel(t, capitals(s))
	}
}

func TestOfBytesThatAreNoUTF8(t *testing.T) {
	for _, s := range []string{"\xff", "\x80", "\xc0\xaf", "\xed\xa0\x80", "\xf4\x90\x80\x80", "\xe2\x82", "utf-8\xff", "\xfeutf-8",
		"utf\xc2-8", "ut\xe68", "\xd5\xd4\xc6-8", "utf-8\xe2\x80", "l\xb11", "\xec1", "\xff\xfel\x001\x00", "l\x001\x00"} {
		isNoLabel(t, s)
		isNoLabel(t, " "+s+"\n")
	}
}

func TestOfLongTexts(t *testing.T) {
	const many = 1 << 22
	for _, s := range []string{strings.Repeat("a", many), strings.Repeat("utf-8", many), strings.Repeat("utf-8 ", many),
		"utf-8" + strings.Repeat("\x0b", many), strings.Repeat("\xff", many), "utf-8" + strings.Repeat(" ", many) + "x",
		"utf" + strings.Repeat(" ", many) + "-8", strings.Repeat("A", many) + " "} {
		isNoLabel(t, s)
	}
	blanks := strings.Repeat(" \r\n\t\f", many)
	hasLabel(t, blanks+"Utf-8", 0)
	hasLabel(t, "ISO-ir-144"+blanks, 5)
	hasLabel(t, blanks+"x-User-Defined"+blanks, 6)
}

// pieces are what random texts are made of: parts of labels, bytes of ends, bytes that look like either.
func pieces() []string {
	all := []string{"\x0b", "\x00", "_", "-", "é", "\xff", "K", "ſ", "K", "x-", "1", "5"}
	for _, c := range ends {
		all = append(all, string(c), string(c))
	}
	for _, s := range labels() {
		all = append(all, s, strings.ToUpper(s))
		all = append(all, strings.SplitAfter(s, "-")...)
	}
	slices.Sort(all)
	return all
}

func TestOfRandomTexts(t *testing.T) {
	r := rand.New(rand.NewSource(4))
	parts := pieces()
	found := 0
	for range 200000 {
		var b strings.Builder
		for range r.Intn(5) {
			b.WriteString(parts[r.Intn(len(parts))])
		}
		asPlain(t, b.String())
		if plain(b.String()) >= 0 {
			found++
		}
	}
	if found < 1000 {
		t.Errorf("only %d of the texts were labels", found)
	}
}
