package decode_test

import (
	"testing"
)

// P5.1: single bytes.

func TestSingleExamples(t *testing.T) {
	hasText(t, windows, octets("80"), points("20AC"))
	hasText(t, windows, octets("41 80 FF 9F A0"), points("41 20AC FF 178 A0"))
	hasText(t, latin, octets("A4 BE 80 A3 A5"), points("20AC 178 80 A3 A5"))
	hasText(t, cyrillic, octets("9F A0 A1 AC AD AE EF F0 F1 FC FD FE FF"),
		points("9F A0 401 40C AD 40E 44F 2116 451 45C A7 45E 45F"))
	hasText(t, user, octets("7F 80 FF 61"), points("7F F780 F7FF 61"))
}

func TestSingleEachByte(t *testing.T) {
	for enc := windows; enc <= user; enc++ {
		table := single(enc)
		all := make([]byte, 256)
		for i := range all {
			all[i] = byte(i)
			hasText(t, enc, all[i:i+1], table[i:i+1])
		}
		hasText(t, enc, all, table)
	}
}

func TestSingleBelow80(t *testing.T) {
	for enc := windows; enc <= user; enc++ {
		for c := range byte(0x80) {
			hasText(t, enc, []byte{c}, []rune{rune(c)})
		}
	}
}

// Each byte is sure at once, and the end adds nothing.
func TestSingleSteps(t *testing.T) {
	for enc := windows; enc <= user; enc++ {
		d := made(t, enc)
		for c, want := range single(enc) {
			if l := fed(t, d, []byte{byte(c)}); len(l) != 1 || l[0] != want {
				t.Errorf("Feed(%x) of %d: %s; want %x", c, enc, told(l), want)
			}
		}
		if l := ended(t, d); len(l) != 0 {
			t.Errorf("End of %d: %s", enc, told(l))
		}
	}
}
