package decode_test

import (
	"slices"
	"strconv"
	"strings"
	"testing"
	"unicode/utf16"

	"hornbeam/api"
	"hornbeam/decode"
)

// The encodings by the numbers that the document gives them: a test leans on no constant that the program reads.
const (
	eight = iota
	little
	big
	windows
	latin
	cyrillic
	user
	encodings
)

const (
	minInt = -1 << 63
	maxInt = 1<<63 - 1
)

// points are code points as the chapter writes them.
func points(s string) []rune {
	var l []rune
	for _, w := range strings.Fields(s) {
		n, err := strconv.ParseInt(w, 16, 32)
		if err != nil {
			panic(err)
		}
		l = append(l, rune(n))
	}
	return l
}

// octets are bytes as the chapter writes them.
func octets(s string) []byte {
	var b []byte
	for _, r := range points(s) {
		if r < 0 || r > 255 {
			panic("no byte: " + s)
		}
		b = append(b, byte(r))
	}
	return b
}

// told is a list as the chapter writes it, cut where it is long.
func told(l []rune) string {
	var w []string
	for _, r := range l {
		if len(w) == 20 {
			w = append(w, ".. of "+strconv.Itoa(len(l)))
			break
		}
		w = append(w, strconv.FormatInt(int64(r), 16))
	}
	return strings.ToUpper(strings.Join(w, " "))
}

func toldBytes(b []byte) string {
	l := make([]rune, len(b))
	for i, c := range b {
		l[i] = rune(c)
	}
	return told(l)
}

// begins are all beginnings of code points' bytes in UTF-8, made from the code points themselves, the whole ones aside.
var begins = beginnings()

func beginnings() map[string]bool {
	all := map[string]bool{}
	for r := rune(0x80); r <= 0x10FFFF; r++ {
		if r >= 0xD800 && r <= 0xDFFF {
			continue
		}
		s := string(r)
		for i := 1; i < len(s); i++ {
			all[s[:i]] = true
		}
	}
	return all
}

// plainEight is UTF-8 slowly: what is a whole code point is taken, else the longest beginning of one, or one byte, is a
// mark.
func plainEight(b []byte) []rune {
	var l []rune
	for len(b) > 0 {
		r, n := eightAt(b)
		l = append(l, r)
		b = b[n:]
	}
	return l
}

func eightAt(b []byte) (rune, int) {
	n := 1
	if b[0] < 0x80 {
		return rune(b[0]), n
	}
	for n < len(b) && begins[string(b[:n])] {
		if r := []rune(string(b[:n+1])); len(r) == 1 && r[0] != 0xFFFD || string(b[:n+1]) == "\xef\xbf\xbd" {
			return r[0], n + 1
		}
		if !begins[string(b[:n+1])] {
			break
		}
		n++
	}
	return 0xFFFD, n
}

// plainSixteen is UTF-16 by the library, the end's odd byte aside.
func plainSixteen(b []byte, enc int) []rune {
	var units []uint16
	for i := 0; i+1 < len(b); i += 2 {
		if enc == little {
			units = append(units, uint16(b[i+1])<<8|uint16(b[i]))
		} else {
			units = append(units, uint16(b[i])<<8|uint16(b[i+1]))
		}
	}
	l := utf16.Decode(units)
	open := len(units) > 0 && units[len(units)-1]>>10 == 0x36
	if len(b)%2 == 1 && !open {
		l = append(l, 0xFFFD)
	}
	return l
}

// plain is the code points of a whole text, slowly.
func plain(enc int, b []byte) []rune {
	switch enc {
	case eight:
		return plainEight(b)
	case little, big:
		return plainSixteen(b, enc)
	}
	table := single(enc)
	var l []rune
	for _, c := range b {
		l = append(l, table[c])
	}
	return l
}

// single is the chapter's table of an encoding of single bytes, all of its 256 bytes.
func single(enc int) []rune {
	l := make([]rune, 256)
	for i := range l {
		l[i] = rune(i)
	}
	switch enc {
	case windows:
		copy(l[0x80:], points("20AC 81 201A 192 201E 2026 2020 2021 2C6 2030 160 2039 152 8D 17D 8F 90 2018 2019 201C 201D 2022 2013 2014 2DC 2122 161 203A 153 9D 17E 178"))
	case latin:
		p := points("A4 20AC A6 160 A8 161 B4 17D B8 17E BC 152 BD 153 BE 178")
		for i := 0; i < len(p); i += 2 {
			l[p[i]] = p[i+1]
		}
	case cyrillic:
		for i := 0xA1; i <= 0xFF; i++ {
			l[i] = rune(i) + 0x360
		}
		l[0xAD], l[0xF0], l[0xFD] = 0xAD, 0x2116, 0xA7
	case user:
		for i := 0x80; i <= 0xFF; i++ {
			l[i] = rune(i) + 0xF700
		}
	default:
		panic("no encoding of single bytes")
	}
	return l
}

// hasText holds Text against what is wanted.
func hasText(t *testing.T, enc int, b []byte, want []rune) {
	t.Helper()
	l, e := decode.Text(enc, b)
	if !slices.Equal(l, want) || e != 0 {
		t.Errorf("Text(%d, %s): %s, %d; want %s", enc, toldBytes(b), told(l), e, told(want))
	}
}

// made is a new decoder.
func made(t *testing.T, enc int) *decode.Decoder {
	t.Helper()
	d, e := decode.New(enc)
	if d == nil || e != 0 {
		t.Fatalf("New(%d): %v, %d", enc, d == nil, e)
	}
	return d
}

// fed is what Feed answers.
func fed(t *testing.T, d *decode.Decoder, b []byte) []rune {
	t.Helper()
	l, e := d.Feed(b)
	if e != 0 {
		t.Fatalf("Feed(%s): %d", toldBytes(b), e)
	}
	return l
}

// ended is what End answers.
func ended(t *testing.T, d *decode.Decoder) []rune {
	t.Helper()
	l, e := d.End()
	if e != 0 {
		t.Fatalf("End: %d", e)
	}
	return l
}

// hasChunks holds what a decoder answers to these chunks and the end, all together, against what is wanted.
func hasChunks(t *testing.T, enc int, want []rune, chunks ...[]byte) {
	t.Helper()
	d := made(t, enc)
	var l []rune
	for _, b := range chunks {
		l = append(l, fed(t, d, b)...)
	}
	l = append(l, ended(t, d)...)
	if !slices.Equal(l, want) {
		t.Errorf("chunks %x of %d: %s; want %s", chunks, enc, told(l), told(want))
	}
}

// hasSteps holds what each Feed of one byte answers, and End at last, against what is wanted: lists cut by |.
func hasSteps(t *testing.T, enc int, b []byte, want string) {
	t.Helper()
	steps := strings.Split(want, "|")
	if len(steps) != len(b)+1 {
		t.Fatalf("%d steps for %d bytes", len(steps), len(b))
	}
	d := made(t, enc)
	for i, c := range b {
		if l := fed(t, d, []byte{c}); !slices.Equal(l, points(steps[i])) {
			t.Errorf("%d: %s: byte %d leads to %s; want %s", enc, toldBytes(b), i, told(l), steps[i])
		}
	}
	if l := ended(t, d); !slices.Equal(l, points(steps[len(b)])) {
		t.Errorf("%d: %s: the end leads to %s; want %s", enc, toldBytes(b), told(l), steps[len(b)])
	}
}

// isRefused holds an answer with an error against the error that is wanted.
func isRefused(t *testing.T, what string, l []rune, e, want api.Errno) {
	t.Helper()
	if len(l) != 0 || e != want {
		t.Errorf("%s: %s, %d; want error %d", what, told(l), e, want)
	}
}
