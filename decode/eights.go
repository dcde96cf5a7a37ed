package decode

// lead tells of the first bytes from to last how many bytes they want, and between which two the next one is. Of the
// bytes behind that one all are alike.
type lead struct {
	from, last, want, low, high byte
}

// leads are the first bytes that may be, below 80 aside. The narrower ones keep out what fewer bytes can say, D800 to
// DFFF, and what is above 10FFFF.
var leads = [8]lead{
	{0xC2, 0xDF, 1, 0x80, 0xBF},
	{0xE0, 0xE0, 2, 0xA0, 0xBF},
	{0xE1, 0xEC, 2, 0x80, 0xBF},
	{0xED, 0xED, 2, 0x80, 0x9F},
	{0xEE, 0xEF, 2, 0x80, 0xBF},
	{0xF0, 0xF0, 3, 0x90, 0xBF},
	{0xF1, 0xF3, 3, 0x80, 0xBF},
	{0xF4, 0xF4, 3, 0x80, 0x8F},
}

// eights reads UTF-8: want more bytes are wanted, the next one from low to high; point is what those so far say.
type eights struct {
	point           rune
	want, low, high byte
}

func (u *eights) put(l []rune, c byte) []rune {
	if u.want == 0 {
		return u.first(l, c)
	}
	if c < u.low || c > u.high {
		// What was wanted may be the beginning of something else.
		u.want = 0
		return u.first(append(l, mark), c)
	}
	u.point = u.point<<6 | rune(c&0x3F)
	u.want--
	u.low, u.high = 0x80, 0xBF
	if u.want > 0 {
		return l
	}
	return append(l, u.point)
}

func (u *eights) first(l []rune, c byte) []rune {
	if c < 0x80 {
		return append(l, rune(c))
	}
	for _, x := range leads {
		if c >= x.from && c <= x.last {
			*u = eights{rune(c & (0x3F >> x.want)), x.want, x.low, x.high}
			return l
		}
	}
	return append(l, mark)
}

func (u *eights) end(l []rune) []rune {
	if u.want > 0 {
		return append(l, mark)
	}
	return l
}
