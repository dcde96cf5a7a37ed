package entity_test

import (
	"strings"
	"testing"

	"hornbeam/entity"
)

// P8.2: numbered references.

const (
	null      = "null-character-reference"
	outside   = "character-reference-outside-unicode-range"
	surrogate = "surrogate-character-reference"
	none      = "noncharacter-character-reference"
	control   = "control-character-reference"
)

func means(t *testing.T, n int, want rune, fault string) {
	t.Helper()
	if r, f := entity.Number(n); r != want || f != fault {
		t.Errorf("Number(%x): %x, %q; want %x, %q", n, r, f, want, fault)
	}
}

// itself asks for n with a fault.
func itself(t *testing.T, n int, fault string) {
	t.Helper()
	means(t, n, rune(n), fault)
}

// meanings are the numbers that mean others, by the chapter's list.
func meanings() map[int]rune {
	all := map[int]rune{}
	for _, x := range strings.Split(numbers, ", ") {
		w := strings.Fields(x)
		all[number(w[0], 16)] = rune(number(w[1], 16))
	}
	return all
}

func TestNumberExamples(t *testing.T) {
	means(t, 128, 0x20AC, control)
	itself(t, 65, "")
	itself(t, 0x20AC, "")
}

func TestNumbersThatMeanOthers(t *testing.T) {
	all := meanings()
	if len(all) != 27 {
		t.Errorf("%d numbers", len(all))
	}
	for n := 0x80; n <= 0x9F; n++ {
		if r, ok := all[n]; ok {
			means(t, n, r, control)
		} else {
			itself(t, n, control)
		}
	}
	for _, n := range []int{0x81, 0x8D, 0x8F, 0x90, 0x9D} {
		itself(t, n, control)
	}
	means(t, 0x82, 0x201A, control)
	means(t, 0x9F, 0x178, control)
}

func TestNumberOfControls(t *testing.T) {
	means(t, 0, 0xFFFD, null)
	for n := 1; n < 32; n++ {
		if n == 9 || n == 10 || n == 12 {
			itself(t, n, "")
		} else {
			itself(t, n, control)
		}
	}
	itself(t, 13, control)
	itself(t, 31, control)
	itself(t, 32, "")
	itself(t, 126, "")
	itself(t, 127, control)
	means(t, 128, 0x20AC, control)
	itself(t, 129, control)
	means(t, 159, 0x178, control)
	itself(t, 160, "")
}

func TestNumberOfSurrogates(t *testing.T) {
	itself(t, 0xD7FF, "")
	means(t, 0xD800, 0xFFFD, surrogate)
	means(t, 0xDBFF, 0xFFFD, surrogate)
	means(t, 0xDC00, 0xFFFD, surrogate)
	means(t, 0xDFFF, 0xFFFD, surrogate)
	itself(t, 0xE000, "")
	itself(t, 0x1D800, "")
	itself(t, 0x10DFFF, "")
}

func TestNumberOfNoncharacters(t *testing.T) {
	itself(t, 0xFDCF, "")
	for n := 0xFDD0; n <= 0xFDEF; n++ {
		itself(t, n, none)
	}
	itself(t, 0xFDF0, "")
	itself(t, 0x1FDD0, "")
	for end := 0x10000; end <= 0x110000; end += 0x10000 {
		itself(t, end-3, "")
		itself(t, end-2, none)
		itself(t, end-1, none)
		if end < 0x110000 {
			itself(t, end, "")
			itself(t, end+1, "")
		}
	}
	itself(t, 0xFFFD, "")
}

func TestNumberOutside(t *testing.T) {
	itself(t, 0x10FFFD, "")
	itself(t, 0x10FFFE, none)
	itself(t, 0x10FFFF, none)
	for _, n := range []int{0x110000, 0x110001, 0x11FFFE, 1 << 24, 1<<31 - 1, 1 << 31, 1<<32 - 1, 1 << 32, 1<<32 + 65, 1<<32 + 0x80,
		1<<40 + 0xD800, maxInt, maxInt - 1, -1, -2, -10, -65, -128, -0xD800, -0x10FFFF, -1 << 31, -1<<31 - 1, -1 << 32, 65 - 1<<32,
		minInt, minInt + 1, minInt + 65} {
		means(t, n, 0xFFFD, outside)
	}
}

// plainNumber is the chapter's promise, by the numbers themselves.
func plainNumber(n int, all map[int]rune) (rune, string) {
	if n == 0 {
		return 0xFFFD, null
	}
	if n > 0x10FFFF || n < 0 {
		return 0xFFFD, outside
	}
	if n/0x800 == 0xD800/0x800 {
		return 0xFFFD, surrogate
	}
	if left := 0x10000 - n%0x10000; left <= 2 || n > 0xFDCF && n < 0xFDF0 {
		return rune(n), none
	}
	if r, ok := all[n]; ok {
		return r, control
	}
	if n != 9 && n != 10 && n != 12 && n <= 31 || n > 126 && n < 160 {
		return rune(n), control
	}
	return rune(n), ""
}

func TestEachNumber(t *testing.T) {
	all := meanings()
	for n := -0x1000; n < 0x120000; n++ {
		r, fault := plainNumber(n, all)
		means(t, n, r, fault)
	}
}
