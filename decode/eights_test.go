package decode_test

import (
	"testing"
)

// P5.1: UTF-8.

func TestEightExamples(t *testing.T) {
	for _, c := range []struct{ b, want string }{
		{"E2 82 AC", "20AC"},
		{"E2 82 41", "FFFD 41"},
		{"C0 80", "FFFD FFFD"},
		{"F4 90", "FFFD FFFD"},
		{"", ""},
		{"0", "0"},
		{"41 7F", "41 7F"},
		{"EF BB BF 41", "FEFF 41"}, // a page's mark is an upper layer's
		{"FE FF 0 41", "FFFD FFFD 0 41"},
		{"EF BF BD", "FFFD"},
		{"EF BF BE EF BF BF", "FFFE FFFF"},
	} {
		hasText(t, eight, octets(c.b), points(c.want))
	}
}

func TestEightFirstBytes(t *testing.T) {
	for _, c := range []struct{ b, want string }{
		{"7F", "7F"},
		{"80", "FFFD"},
		{"BF", "FFFD"},
		{"C0", "FFFD"},
		{"C1", "FFFD"},
		{"C1 BF", "FFFD FFFD"},
		{"C2 7F", "FFFD 7F"},
		{"C2 80", "80"},
		{"C2 BF", "BF"},
		{"C2 C0", "FFFD FFFD"},
		{"DF 80", "7C0"},
		{"DF BF", "7FF"},
		{"DF C0", "FFFD FFFD"},
		{"E0 A0 80", "800"},
		{"E0 BF BF", "FFF"},
		{"E1 80 80", "1000"},
		{"EC BF BF", "CFFF"},
		{"ED 80 80", "D000"},
		{"EE 80 80", "E000"},
		{"EF 80 80", "F000"},
		{"EF BF BF", "FFFF"},
		{"F0 90 80 80", "10000"},
		{"F1 80 80 80", "40000"},
		{"F3 BF BF BF", "FFFFF"},
		{"F4 80 80 80", "100000"},
		{"F4 8F BF BF", "10FFFF"},
		{"F5", "FFFD"},
		{"F5 80 80 80", "FFFD FFFD FFFD FFFD"},
		{"F8 88 80 80 80", "FFFD FFFD FFFD FFFD FFFD"},
		{"FF", "FFFD"},
	} {
		hasText(t, eight, octets(c.b), points(c.want))
	}
}

func TestEightNarrowerSecondBytes(t *testing.T) {
	for _, c := range []struct{ b, want string }{
		{"E0 9F BF", "FFFD FFFD FFFD"},
		{"E0 80 80", "FFFD FFFD FFFD"},
		{"E0 C0 80", "FFFD FFFD FFFD"},
		{"E0 A0 BF", "83F"},
		{"E0 BF 80", "FC0"},
		{"ED 7F", "FFFD 7F"},
		{"ED 9F BF", "D7FF"},
		{"ED A0 80", "FFFD FFFD FFFD"},
		{"ED BF BF", "FFFD FFFD FFFD"},
		{"ED A0 BD ED B8 80", "FFFD FFFD FFFD FFFD FFFD FFFD"},
		{"F0 8F BF BF", "FFFD FFFD FFFD FFFD"},
		{"F0 80 80 80", "FFFD FFFD FFFD FFFD"},
		{"F0 90 80 80", "10000"},
		{"F0 BF BF BF", "3FFFF"},
		{"F4 8F 80 80", "10F000"},
		{"F4 90 80 80", "FFFD FFFD FFFD FFFD"},
		{"F4 BF", "FFFD FFFD"},
		// The third and the fourth byte are the wide ones again.
		{"E0 A0 9F", "81F"},
		{"ED 80 BF", "D03F"},
		{"F0 90 8F 8F", "103CF"},
		{"F4 80 BF 90", "100FD0"},
	} {
		hasText(t, eight, octets(c.b), points(c.want))
	}
}

func TestEightByteLookedAtAnew(t *testing.T) {
	for _, c := range []struct{ b, want string }{
		{"C2 41", "FFFD 41"},
		{"E2 41", "FFFD 41"},
		{"E2 82 41 42", "FFFD 41 42"},
		{"F0 9F 41", "FFFD 41"},
		{"F0 9F 98 41", "FFFD 41"},
		{"C2 C2 A9", "FFFD A9"},
		{"E2 E2 82 AC", "FFFD 20AC"},
		{"E2 82 E2 82 AC", "FFFD 20AC"},
		{"F0 9F 98 F0 9F 98 80", "FFFD 1F600"},
		{"F0 9F E2 82 AC", "FFFD 20AC"},
		{"E2 C2 41", "FFFD FFFD 41"},
		{"E2 82 C0", "FFFD FFFD"},
		{"E2 82 AC AC", "20AC FFFD"},
		{"F4 F4 F4", "FFFD FFFD FFFD"},
		{"E0 ED A0 41", "FFFD FFFD FFFD 41"},
		{"ED E0 A0 80", "FFFD 800"},
	} {
		hasText(t, eight, octets(c.b), points(c.want))
	}
}

func TestEightCutByTheEnd(t *testing.T) {
	for _, s := range []string{"C2", "DF", "E0", "E0 A0", "E2", "E2 82", "ED 9F", "EF BF", "F0", "F0 90", "F0 90 80", "F3 BF BF", "F4", "F4 8F", "F4 8F BF"} {
		hasText(t, eight, octets(s), points("FFFD"))
		hasText(t, eight, append(octets("41"), octets(s)...), points("41 FFFD"))
		hasText(t, eight, append(octets(s), octets(s)...), points("FFFD FFFD"))
	}
}

func TestEightEachPoint(t *testing.T) {
	for r := rune(0); r <= 0x10FFFF; r++ {
		want := r
		if r >= 0xD800 && r <= 0xDFFF {
			want = 0xFFFD
		}
		hasText(t, eight, []byte(string(r)), []rune{want})
	}
}

// Bytes at which a rule begins, or one ahead of it.
var edges = octets("0 41 7F 80 8F 90 9F A0 BF C0 C1 C2 DF E0 E1 EC ED EE EF F0 F1 F3 F4 F5 FF")

func TestEightAllShortTexts(t *testing.T) {
	for a := range 256 {
		hasText(t, eight, []byte{byte(a)}, plainEight([]byte{byte(a)}))
		for b := range 256 {
			s := []byte{byte(a), byte(b)}
			hasText(t, eight, s, plainEight(s))
		}
	}
}

func TestEightTextsOfEdges(t *testing.T) {
	s := make([]byte, 4)
	for _, s[0] = range edges {
		for _, s[1] = range edges {
			for _, s[2] = range edges {
				hasText(t, eight, s[:3], plainEight(s[:3]))
				for _, s[3] = range edges {
					hasText(t, eight, s, plainEight(s))
				}
			}
		}
	}
}

func TestEightSteps(t *testing.T) {
	for _, c := range []struct{ b, want string }{
		{"41", "41|"},
		{"C0 80", "FFFD|FFFD|"},
		{"E2 82 AC", "||20AC|"},
		{"E2 82", "||FFFD"},
		{"E2 82 41", "||FFFD 41|"},
		{"E2 82 E2", "||FFFD|FFFD"},
		{"F4 90", "|FFFD FFFD|"},
		{"F0 9F 98 80", "|||1F600|"},
		{"F0 9F 98", "|||FFFD"},
		{"C2 C2 A9 F5", "|FFFD|A9|FFFD|"},
		{"ED A0 80", "|FFFD FFFD|FFFD|"},
	} {
		hasSteps(t, eight, octets(c.b), c.want)
	}
}

// What is sure is all that no bytes behind can change.
func TestEightNothingSureIsKept(t *testing.T) {
	behind := []string{"", "41", "80", "80 80", "80 80 80", "90 80 80", "A0 80", "BF BF BF", "C2"}
	for _, a := range edges {
		for _, b := range edges {
			for _, c := range edges {
				s := []byte{a, b, c}
				want := plainEight(s)
				for _, x := range behind {
					want = common(want, plainEight(append([]byte{a, b, c}, octets(x)...)))
				}
				if l := fed(t, made(t, eight), s); told(l) != told(want) {
					t.Errorf("Feed(%s): %s; want %s", toldBytes(s), told(l), told(want))
				}
			}
		}
	}
}

func common(a, b []rune) []rune {
	n := 0
	for n < len(a) && n < len(b) && a[n] == b[n] {
		n++
	}
	return a[:n]
}
