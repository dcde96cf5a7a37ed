package decode_test

import (
	"testing"
	"unicode/utf16"
)

// P5.1: UTF-16.

// inOrder are the bytes of units, low ones first or not.
func inOrder(enc int, units ...rune) []byte {
	var b []byte
	for _, u := range units {
		if enc == little {
			b = append(b, byte(u), byte(u>>8))
		} else {
			b = append(b, byte(u>>8), byte(u))
		}
	}
	return b
}

var orders = []int{little, big}

func TestSixteenExamples(t *testing.T) {
	hasText(t, little, octets("3D D8 0 DE"), points("1F600"))
	hasText(t, little, octets("3D D8 41 0"), points("FFFD 41"))
	hasText(t, big, octets("D8 3D DE 0"), points("1F600"))
	hasText(t, big, octets("D8 3D 0 41"), points("FFFD 41"))
	hasText(t, little, octets("AC 20 FF FE"), points("20AC FEFF"))
	hasText(t, big, octets("20 AC FF FE"), points("20AC FFFE"))
	hasText(t, little, nil, nil)
	hasText(t, big, nil, nil)
}

func TestSixteenUnits(t *testing.T) {
	for _, enc := range orders {
		for _, c := range []struct{ units, want string }{
			{"D7FF", "D7FF"},
			{"D800", "FFFD"},
			{"DBFF", "FFFD"},
			{"DC00", "FFFD"},
			{"DFFF", "FFFD"},
			{"E000", "E000"},
			{"FFFF", "FFFF"},
			{"FEFF", "FEFF"},
			{"0", "0"},
			{"FFFD", "FFFD"},
			{"D800 DC00", "10000"},
			{"D800 DFFF", "103FF"},
			{"DBFF DC00", "10FC00"},
			{"DBFF DFFF", "10FFFF"},
			{"D83D DE00", "1F600"},
			{"D800 D7FF", "FFFD D7FF"},
			{"D800 E000", "FFFD E000"},
			{"D800 D800", "FFFD FFFD"},
			{"D800 D800 DC00", "FFFD 10000"},
			{"DBFF DBFF DFFF", "FFFD 10FFFF"},
			{"D800 D801 DC00", "FFFD 10400"},
			{"D800 D800 D800 DC00", "FFFD FFFD 10000"},
			{"D800 DBFF 41", "FFFD FFFD 41"},
			{"DC00 DC00", "FFFD FFFD"},
			{"DC00 D800", "FFFD FFFD"},
			{"DFFF D800 DC00", "FFFD 10000"},
			{"D800 DC00 DC00", "10000 FFFD"},
			{"D800 DC00 D800", "10000 FFFD"},
			{"D800 DC00 41 D800 DC00", "10000 41 10000"},
			{"41 D800 42", "41 FFFD 42"},
			{"D800 0", "FFFD 0"},
		} {
			hasText(t, enc, inOrder(enc, points(c.units)...), points(c.want))
		}
	}
}

func TestSixteenEnds(t *testing.T) {
	for _, enc := range orders {
		for _, c := range []struct{ units, want string }{
			{"", "FFFD"},
			{"41", "41 FFFD"},
			{"D800", "FFFD"},
			{"DBFF", "FFFD"},
			{"41 D800", "41 FFFD"},
			{"D800 D800", "FFFD FFFD"},
			{"DC00", "FFFD FFFD"},
			{"DFFF", "FFFD FFFD"},
			{"D800 DC00", "10000 FFFD"},
			{"D800 E000", "FFFD E000 FFFD"},
			{"D7FF", "D7FF FFFD"},
		} {
			for _, odd := range []byte{0, 0x41, 0xD8, 0xDC, 0xFF} {
				hasText(t, enc, append(inOrder(enc, points(c.units)...), odd), points(c.want))
			}
		}
	}
}

func TestSixteenEachUnit(t *testing.T) {
	for _, enc := range orders {
		for u := rune(0); u <= 0xFFFF; u++ {
			want := u
			if u >= 0xD800 && u <= 0xDFFF {
				want = 0xFFFD
			}
			hasText(t, enc, inOrder(enc, u), []rune{want})
		}
	}
}

func TestSixteenEachPoint(t *testing.T) {
	for _, enc := range orders {
		for r := rune(0x10000); r <= 0x10FFFF; r++ {
			a, b := utf16.EncodeRune(r)
			hasText(t, enc, inOrder(enc, a, b), []rune{r})
		}
	}
}

func TestSixteenTextsOfEdges(t *testing.T) {
	units := points("0 41 D7FF D800 D801 DBFE DBFF DC00 DC01 DFFE DFFF E000 FFFF")
	for _, enc := range orders {
		for _, a := range units {
			for _, b := range units {
				for _, c := range units {
					s := inOrder(enc, a, b, c)
					hasText(t, enc, s, plainSixteen(s, enc))
					hasText(t, enc, s[:5], plainSixteen(s[:5], enc))
				}
			}
		}
	}
}

func TestSixteenSteps(t *testing.T) {
	for _, enc := range orders {
		for _, c := range []struct{ units, want string }{
			{"41", "|41|"},
			{"D800", "||FFFD"},
			{"DC00", "|FFFD|"},
			{"D83D DE00", "|||1F600|"},
			{"D83D 41", "|||FFFD 41|"},
			{"D83D D83D", "|||FFFD|FFFD"},
			{"D83D D83D DE00 41", "|||FFFD||1F600||41|"},
			{"DC00 D800", "|FFFD|||FFFD"},
		} {
			hasSteps(t, enc, inOrder(enc, points(c.units)...), c.want)
		}
		hasSteps(t, enc, []byte{0x41}, "|FFFD")
		hasSteps(t, enc, append(inOrder(enc, 0xD83D), 0x41), "|||FFFD")
		hasSteps(t, enc, append(inOrder(enc, 0x41), 0xD8), "|41||FFFD")
	}
}
