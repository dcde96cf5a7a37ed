package sniff_test

import (
	"bytes"
	"slices"
	"strings"
	"testing"

	"hornbeam/api"
	"hornbeam/sniff"
)

// P6.1: Mark.

// hasMark holds Mark against what is wanted; n 0 is no mark.
func hasMark(t *testing.T, s string, enc, n int) {
	t.Helper()
	b := []byte(s)
	var e api.Errno
	if n == 0 {
		e = errNot
	}
	if gotEnc, gotN, gotE := sniff.Mark(b); gotEnc != enc || gotN != n || gotE != e {
		t.Errorf("Mark(% x): %d, %d, %d; want %d, %d, %d", short(s), gotEnc, gotN, gotE, enc, n, e)
	}
	if string(b) != s {
		t.Errorf("Mark(% x) has changed its bytes", short(s))
	}
}

func TestMarkOfEach(t *testing.T) {
	for _, rest := range []string{"", "a", "\x00", "\x00\x00", "\xff", "\xbf", "\xef\xbb\xbf", "\xfe\xff", "\xff\xfe", "<meta charset=l9>",
		strings.Repeat("x", 1<<20)} {
		hasMark(t, "\xef\xbb\xbf"+rest, utf8, 3)
		hasMark(t, "\xfe\xff"+rest, utf16be, 2)
		hasMark(t, "\xff\xfe"+rest, utf16le, 2)
	}
}

func TestMarkByTheConstants(t *testing.T) {
	for enc, s := range map[int]string{api.EncUTF8: "\xef\xbb\xbf", api.EncUTF16BE: "\xfe\xff", api.EncUTF16LE: "\xff\xfe"} {
		hasMark(t, s, enc, len(s))
	}
}

func TestMarkCutShort(t *testing.T) {
	for _, s := range []string{"", "\xef", "\xef\xbb", "\xfe", "\xff"} {
		hasMark(t, s, 0, 0)
		if len(s) > 0 {
			hasMark(t, s+"a", 0, 0)
		}
	}
	// The bytes are there, but behind the end of the slice.
	if _, _, e := sniff.Mark([]byte("\xef\xbb\xbf")[:2]); e != errNot {
		t.Errorf("Mark cut to two bytes: %d", e)
	}
	if _, _, e := sniff.Mark([]byte("\xff\xfe")[:1]); e != errNot {
		t.Errorf("Mark cut to a byte: %d", e)
	}
}

func TestMarkOfNothing(t *testing.T) {
	for _, b := range [][]byte{nil, {}} {
		if enc, n, e := sniff.Mark(b); enc != 0 || n != 0 || e != errNot {
			t.Errorf("Mark of nothing: %d, %d, %d", enc, n, e)
		}
	}
}

func TestMarkNotAtTheBeginning(t *testing.T) {
	for _, mark := range []string{"\xef\xbb\xbf", "\xfe\xff", "\xff\xfe"} {
		for _, ahead := range []string{" ", "\n", "\x00", "a", "\xef", "\xbb", "<"} {
			hasMark(t, ahead+mark, 0, 0)
		}
	}
}

func TestMarkOfAllBytes(t *testing.T) {
	for a := range 256 {
		for b := range 256 {
			for _, c := range []byte{0, 'a', 0xbb, 0xbe, 0xbf, 0xc0, 0xfe, 0xff} {
				s := string([]byte{byte(a), byte(b), c})
				switch {
				case s == "\xef\xbb\xbf":
					hasMark(t, s, utf8, 3)
				case a == 0xfe && b == 0xff:
					hasMark(t, s, utf16be, 2)
				case a == 0xff && b == 0xfe:
					hasMark(t, s, utf16le, 2)
				default:
					hasMark(t, s, 0, 0)
				}
			}
		}
	}
}

// P4, P5: what is handed in stays as it is, and an answer hangs on it alone.

func TestAnswersAreTheSameAgain(t *testing.T) {
	page := []byte("\xef\xbb\xbf<meta charset=l9>")
	was := slices.Clone(page)
	for range 3 {
		for n := range page {
			hasMark(t, string(page[:n]), utf8, min(n/3, 1)*3)
			asPlain(t, string(page[:n]))
		}
		tells(t, string(page), latin9)
		tells(t, "x", none)
		hasContent(t, "charset=x", "x")
		hasNoContent(t, "x")
		chooses(t, string(page), true, "l1", utf8, 3)
		waits(t, string(page), "l1")
	}
	if !bytes.Equal(page, was) {
		t.Error("the page has changed")
	}
}
