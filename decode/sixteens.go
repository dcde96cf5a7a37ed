package decode

// sixteens reads UTF-16, low bytes first or not. A unit's first byte waits for the other one, and a unit that wants
// another behind it for that one; 0 is no such unit.
type sixteens struct {
	low  bool
	half bool
	odd  byte
	unit rune
}

func (u *sixteens) put(l []rune, c byte) []rune {
	if !u.half {
		u.half, u.odd = true, c
		return l
	}
	u.half = false
	if u.low {
		return u.next(l, rune(c)<<8|rune(u.odd))
	}
	return u.next(l, rune(u.odd)<<8|rune(c))
}

func (u *sixteens) next(l []rune, b rune) []rune {
	a := u.unit
	u.unit = 0
	if a != 0 && isSecond(b) {
		return append(l, 0x10000+0x400*(a-0xD800)+b-0xDC00)
	}
	if a != 0 {
		l = append(l, mark)
	}
	switch {
	case isFirst(b):
		u.unit = b
		return l
	case isSecond(b):
		return append(l, mark)
	}
	return append(l, b)
}

// end makes one mark of all that is open, a unit and a byte behind it together.
func (u *sixteens) end(l []rune) []rune {
	if u.half || u.unit != 0 {
		return append(l, mark)
	}
	return l
}

func isFirst(unit rune) bool { return unit >= 0xD800 && unit <= 0xDBFF }

func isSecond(unit rune) bool { return unit >= 0xDC00 && unit <= 0xDFFF }
