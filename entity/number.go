package entity

const (
	replacement = 0xFFFD // stands for a number that means no code point
	greatest    = 0x10FFFF
)

// Number answers the code point that a numbered reference means, and the name of its fault.
func Number(n int) (rune, string) {
	switch {
	case n == 0:
		return replacement, "null-character-reference"
	case n < 0 || n > greatest:
		return replacement, "character-reference-outside-unicode-range"
	case n >= 0xD800 && n <= 0xDFFF:
		return replacement, "surrogate-character-reference"
	case isNoncharacter(n):
		return rune(n), "noncharacter-character-reference"
	case isControl(n):
		return meant(n), "control-character-reference"
	}
	return rune(n), ""
}

func isNoncharacter(n int) bool {
	return n&0xFFFF >= 0xFFFE || n >= 0xFDD0 && n <= 0xFDEF
}

// isControl leaves out the blanks that a page may have anyway, but not 13: line ends are one by then, so that only a reference can bring it.
func isControl(n int) bool {
	switch n {
	case 0x9, 0xA, 0xC:
		return false
	}
	return n < 0x20 || n >= 0x7F && n <= 0x9F
}

func meant(n int) rune {
	if r, ok := others()[n]; ok {
		return r
	}
	return rune(n)
}

// others are the numbers that mean others: those that windows-1252 has other code points for.
func others() map[int]rune {
	return map[int]rune{
		0x80: 0x20AC, 0x82: 0x201A, 0x83: 0x192, 0x84: 0x201E, 0x85: 0x2026, 0x86: 0x2020, 0x87: 0x2021, 0x88: 0x2C6,
		0x89: 0x2030, 0x8A: 0x160, 0x8B: 0x2039, 0x8C: 0x152, 0x8E: 0x17D, 0x91: 0x2018, 0x92: 0x2019, 0x93: 0x201C,
		0x94: 0x201D, 0x95: 0x2022, 0x96: 0x2013, 0x97: 0x2014, 0x98: 0x2DC, 0x99: 0x2122, 0x9A: 0x161, 0x9B: 0x203A,
		0x9C: 0x153, 0x9E: 0x17E, 0x9F: 0x178,
	}
}
