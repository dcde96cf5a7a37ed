package decode

// whole is what encodings of single bytes share: behind each byte nothing is open.
type whole struct{}

func (whole) end(l []rune) []rune { return l }

// highs are the code points of windows-1252's bytes 80 to 9F.
var highs = [32]rune{
	0x20AC, 0x81, 0x201A, 0x192, 0x201E, 0x2026, 0x2020, 0x2021, 0x2C6, 0x2030, 0x160, 0x2039, 0x152, 0x8D, 0x17D, 0x8F,
	0x90, 0x2018, 0x2019, 0x201C, 0x201D, 0x2022, 0x2013, 0x2014, 0x2DC, 0x2122, 0x161, 0x203A, 0x153, 0x9D, 0x17E, 0x178,
}

// windows reads windows-1252.
type windows struct{ whole }

func (windows) put(l []rune, c byte) []rune {
	if c >= 0x80 && c <= 0x9F {
		return append(l, highs[c-0x80])
	}
	return append(l, rune(c))
}

// other is a byte that is not itself.
type other struct {
	from byte
	to   rune
}

// others are ISO-8859-15's.
var others = [8]other{
	{0xA4, 0x20AC}, {0xA6, 0x160}, {0xA8, 0x161}, {0xB4, 0x17D}, {0xB8, 0x17E}, {0xBC, 0x152}, {0xBD, 0x153}, {0xBE, 0x178},
}

// latin reads ISO-8859-15.
type latin struct{ whole }

func (latin) put(l []rune, c byte) []rune {
	for _, x := range others {
		if x.from == c {
			return append(l, x.to)
		}
	}
	return append(l, rune(c))
}

// cyrillic reads ISO-8859-5.
type cyrillic struct{ whole }

func (cyrillic) put(l []rune, c byte) []rune {
	switch {
	case c <= 0xA0, c == 0xAD:
		return append(l, rune(c))
	case c == 0xF0:
		return append(l, 0x2116)
	case c == 0xFD:
		return append(l, 0xA7)
	}
	return append(l, rune(c)+0x360)
}

// user reads x-user-defined.
type user struct{ whole }

func (user) put(l []rune, c byte) []rune {
	if c < 0x80 {
		return append(l, rune(c))
	}
	return append(l, rune(c)+0xF700)
}
