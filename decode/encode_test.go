package decode_test

import (
	"bytes"
	"math/rand"
	"slices"
	"testing"

	"hornbeam/decode"
)

// P5.1, P5.3: UTF8.

func hasBytes(t *testing.T, l []rune, want []byte) {
	t.Helper()
	if b := decode.UTF8(l); !bytes.Equal(b, want) {
		t.Errorf("UTF8(%s): %s; want %s", told(l), toldBytes(b), toldBytes(want))
	}
}

func TestUTF8Edges(t *testing.T) {
	for _, c := range []struct{ l, want string }{
		{"", ""},
		{"0", "0"},
		{"7F", "7F"},
		{"80", "C2 80"},
		{"7FF", "DF BF"},
		{"800", "E0 A0 80"},
		{"20AC", "E2 82 AC"},
		{"D7FF", "ED 9F BF"},
		{"D800", "EF BF BD"},
		{"DBFF", "EF BF BD"},
		{"DC00", "EF BF BD"},
		{"DFFF", "EF BF BD"},
		{"E000", "EE 80 80"},
		{"FEFF", "EF BB BF"},
		{"FFFD", "EF BF BD"},
		{"FFFE", "EF BF BE"},
		{"FFFF", "EF BF BF"},
		{"10000", "F0 90 80 80"},
		{"1F600", "F0 9F 98 80"},
		{"10FFFF", "F4 8F BF BF"},
		{"110000", "EF BF BD"},
		{"7FFFFFFF", "EF BF BD"},
		{"41 D83D DE00 42", "41 EF BF BD EF BF BD 42"}, // two halves are two marks
	} {
		hasBytes(t, points(c.l), octets(c.want))
	}
	hasBytes(t, nil, nil)
}

func TestUTF8BelowZero(t *testing.T) {
	for _, r := range []rune{-1, -2, -0x41, -0x80, -0x10FFFF, -0x110000, -1 << 16, -1 << 31, -1<<31 + 1, -1<<31 + 0x41} {
		hasBytes(t, []rune{r}, octets("EF BF BD"))
		hasBytes(t, []rune{'a', r, 'b'}, octets("61 EF BF BD 62"))
	}
}

func TestUTF8AboveTheLast(t *testing.T) {
	for _, r := range []rune{0x110000, 0x110001, 0x1FFFFF, 0x200000, 0x3FFFFFF, 0x4000000, 1 << 30, 1<<31 - 2, 1<<31 - 1} {
		hasBytes(t, []rune{r}, octets("EF BF BD"))
	}
}

// possible is a list with marks for what can't be.
func possible(l []rune) []rune {
	l = slices.Clone(l)
	for i, r := range l {
		if r < 0 || r > 0x10FFFF || r >= 0xD800 && r <= 0xDFFF {
			l[i] = 0xFFFD
		}
	}
	return l
}

func TestUTF8OfEachPoint(t *testing.T) {
	var all []rune
	var want []byte
	for r := rune(-3); r <= 0x110003; r++ {
		all = append(all, r)
		s := []byte(string(r))
		want = append(want, s...)
		hasBytes(t, []rune{r}, s)
	}
	hasBytes(t, all, want)
	hasText(t, eight, decode.UTF8(all), possible(all))
}

func TestTextOfUTF8IsTheList(t *testing.T) {
	rnd := rand.New(rand.NewSource(5))
	pick := []rune{-1 << 31, -1, 0, 0x41, 0x7F, 0x80, 0x7FF, 0x800, 0xD7FF, 0xD800, 0xDFFF, 0xE000, 0xFFFD, 0xFFFF, 0x10000, 0x10FFFF, 0x110000, 1<<31 - 1}
	for range 5000 {
		l := make([]rune, rnd.Intn(12))
		for i := range l {
			if rnd.Intn(2) == 0 {
				l[i] = pick[rnd.Intn(len(pick))]
			} else {
				l[i] = rune(rnd.Intn(0x120000))
			}
		}
		b := decode.UTF8(l)
		hasText(t, eight, b, possible(l))
		hasBytes(t, possible(l), b)
	}
}

// Of a text that is none, UTF8 of Text is no longer that text, but one whose code points are the same.
func TestUTF8OfTextIsSound(t *testing.T) {
	rnd := rand.New(rand.NewSource(6))
	for range 5000 {
		b := randomBytes(rnd, rnd.Intn(12))
		l, _ := decode.Text(eight, b)
		hasText(t, eight, decode.UTF8(l), l)
	}
}

func TestUTF8KeepsNothing(t *testing.T) {
	l := points("41 20AC D800 1F600")
	was := slices.Clone(l)
	b := decode.UTF8(l)
	if !slices.Equal(l, was) {
		t.Errorf("UTF8 changed its list: %s", told(l))
	}
	first := slices.Clone(b)
	l[0], l[1] = 0x42, 0x43
	other := decode.UTF8(l)
	if !bytes.Equal(b, first) {
		t.Errorf("an answer has changed: %x", b)
	}
	clear(b)
	if again := decode.UTF8(l); !bytes.Equal(again, other) {
		t.Errorf("UTF8 once more: %x; want %x", again, other)
	}
}
