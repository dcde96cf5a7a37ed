package decode_test

import (
	"bytes"
	"math/rand"
	"slices"
	"testing"

	"hornbeam/decode"
)

// P5.1, P5.3: Feed and End, and chunks.

// randomBytes are bytes that often stand where a rule begins.
func randomBytes(rnd *rand.Rand, n int) []byte {
	b := make([]byte, n)
	for i := range b {
		switch rnd.Intn(4) {
		case 0:
			b[i] = byte(rnd.Intn(256))
		case 1:
			b[i] = 0x80 + byte(rnd.Intn(0x40))
		case 2:
			b[i] = edges[rnd.Intn(len(edges))]
		default:
			b[i] = 0xD8 + byte(rnd.Intn(8))
		}
	}
	return b
}

// texts are some in each encoding, things that can't be among them.
func texts() [][]byte {
	return [][]byte{
		nil,
		octets("41"),
		octets("E2 82 AC"),
		octets("41 E2 82 AC C2 A9 F0 9F 98 80 42"),
		octets("E2 82 41 F0 9F 98 C2 C2 A9 F4 90 ED A0 80"),
		octets("F0 9F 98"),
		octets("3D D8 0 DE 41 0 3D D8 3D D8 0 DE 0 DC 41"),
		octets("D8 3D DE 0 0 41 D8 3D D8 3D DE 0 DC 0 D8 0 41"),
		octets("D8 0 D8"),
		octets("0 D8 0"),
		octets("80 9F A0 A4 AD F0 FD FF 0 7F"),
	}
}

func TestChunksCutAtEveryPlace(t *testing.T) {
	for enc := range encodings {
		for _, b := range texts() {
			want := plain(enc, b)
			hasText(t, enc, b, want)
			hasChunks(t, enc, want, b)
			for i := range len(b) + 1 {
				hasChunks(t, enc, want, b[:i], b[i:])
				hasChunks(t, enc, want, nil, b[:i], []byte{}, nil, b[i:], nil)
				for j := i; j <= len(b); j++ {
					hasChunks(t, enc, want, b[:i], b[i:j], b[j:])
				}
			}
		}
	}
}

func TestChunksOfOneByte(t *testing.T) {
	for enc := range encodings {
		for _, b := range texts() {
			var ones [][]byte
			for i := range b {
				ones = append(ones, b[i:i+1], nil)
			}
			hasChunks(t, enc, plain(enc, b), ones...)
		}
	}
}

func TestRandomChunks(t *testing.T) {
	rnd := rand.New(rand.NewSource(7))
	for range 6000 {
		enc := rnd.Intn(encodings)
		b := randomBytes(rnd, rnd.Intn(24))
		want := plain(enc, b)
		hasText(t, enc, b, want)
		var chunks [][]byte
		for rest := b; len(rest) > 0; {
			n := rnd.Intn(min(len(rest), 5) + 1)
			chunks = append(chunks, rest[:n])
			rest = rest[n:]
		}
		hasChunks(t, enc, want, chunks...)
	}
}

// What is answered so far is a beginning of what all bytes lead to, however they go on.
func TestFeedTellsOnlyWhatIsSure(t *testing.T) {
	rnd := rand.New(rand.NewSource(8))
	for range 4000 {
		enc := rnd.Intn(encodings)
		b := randomBytes(rnd, 1+rnd.Intn(10))
		n := rnd.Intn(len(b) + 1)
		l := fed(t, made(t, enc), b[:n])
		for _, behind := range [][]byte{nil, b[n:], {0x41}, {0xDC}, {0x80, 0x80, 0x80}, {0, 0xDC, 0, 0xDC}} {
			all := plain(enc, append(slices.Clone(b[:n]), behind...))
			if len(all) < len(l) || !slices.Equal(all[:len(l)], l) {
				t.Errorf("Feed(%s) of %d: %s, not sure ahead of %s", toldBytes(b[:n]), enc, told(l), toldBytes(behind))
			}
		}
		if whole := plain(enc, b[:n]); len(whole)-len(l) > 1 {
			t.Errorf("Feed(%s) of %d: %s; the end leads to more than one mark", toldBytes(b[:n]), enc, told(l))
		}
	}
}

func TestNoHalfPoints(t *testing.T) {
	rnd := rand.New(rand.NewSource(9))
	for range 3000 {
		enc := rnd.Intn(encodings)
		l, _ := decode.Text(enc, randomBytes(rnd, 40))
		for _, r := range l {
			if r < 0 || r > 0x10FFFF || r >= 0xD800 && r <= 0xDFFF {
				t.Fatalf("Text of %d has %x", enc, r)
			}
		}
	}
}

func TestBehindTheEnd(t *testing.T) {
	for enc := range encodings {
		for _, b := range texts() {
			d := made(t, enc)
			fed(t, d, b)
			ended(t, d)
			for range 2 {
				l, e := d.End()
				isRefused(t, "End behind End", l, e, 5)
				l, e = d.Feed(nil)
				isRefused(t, "Feed(nil) behind End", l, e, 5)
				l, e = d.Feed([]byte{})
				isRefused(t, "Feed of nothing behind End", l, e, 5)
				l, e = d.Feed([]byte("abc"))
				isRefused(t, "Feed behind End", l, e, 5)
			}
		}
	}
}

func TestEndOfNothing(t *testing.T) {
	for enc := range encodings {
		if l := ended(t, made(t, enc)); len(l) != 0 {
			t.Errorf("End of %d: %s", enc, told(l))
		}
		hasText(t, enc, nil, nil)
		hasText(t, enc, []byte{}, nil)
		if l := fed(t, made(t, enc), nil); len(l) != 0 {
			t.Errorf("Feed(nil) of %d: %s", enc, told(l))
		}
	}
}

func TestDecodersShareNothing(t *testing.T) {
	for enc := range encodings {
		for _, b := range texts() {
			one, two := made(t, enc), made(t, enc)
			var l, m []rune
			for i := range b {
				l = append(l, fed(t, one, b[i:i+1])...)
				decode.Text(enc, []byte{0xF0, 0xD8, 0xD8})
				m = append(m, fed(t, two, b[i:i+1])...)
			}
			l = append(l, ended(t, one)...)
			m = append(m, ended(t, two)...)
			if want := plain(enc, b); !slices.Equal(l, want) || !slices.Equal(m, want) {
				t.Errorf("two decoders of %d: %s and %s; want %s", enc, told(l), told(m), told(want))
			}
		}
	}
}

// P4: what was handed in or out is not changed by a later call, nor does changing it change a later answer.
func TestSlicesAreNotKept(t *testing.T) {
	for enc := range encodings {
		for _, b := range texts() {
			want := plain(enc, b)
			d := made(t, enc)
			var all []rune
			var handed [][]rune
			var copies [][]rune
			for i := range b {
				chunk := []byte{b[i], 0xEE, 0xEE}
				l := fed(t, d, chunk[:1])
				if !bytes.Equal(chunk, []byte{b[i], 0xEE, 0xEE}) {
					t.Fatalf("Feed changed its bytes: %x", chunk)
				}
				clear(chunk)
				all = append(all, l...)
				handed = append(handed, l)
				copies = append(copies, slices.Clone(l))
			}
			last := ended(t, d)
			for i := range handed {
				if !slices.Equal(handed[i], copies[i]) {
					t.Errorf("an answer of %d has changed: %s; was %s", enc, told(handed[i]), told(copies[i]))
				}
			}
			if all = append(all, last...); !slices.Equal(all, want) {
				t.Errorf("chunks of %d: %s; want %s", enc, told(all), told(want))
			}
		}
	}
}

func TestChangedAnswersChangeNothing(t *testing.T) {
	for enc := range encodings {
		for _, b := range texts() {
			d := made(t, enc)
			var all []rune
			for i := range b {
				l := fed(t, d, b[i:i+1])
				all = append(all, l...)
				clear(l[:cap(l)])
			}
			if all = append(all, ended(t, d)...); !slices.Equal(all, plain(enc, b)) {
				t.Errorf("chunks of %d: %s", enc, told(all))
			}
			l, _ := decode.Text(enc, b)
			clear(l[:cap(l)])
			hasText(t, enc, b, plain(enc, b))
		}
	}
}

func TestTextChangesNothing(t *testing.T) {
	for enc := range encodings {
		for _, b := range texts() {
			was := slices.Clone(b)
			decode.Text(enc, b)
			if !bytes.Equal(b, was) {
				t.Errorf("Text of %d changed its bytes: %x; was %x", enc, b, was)
			}
		}
	}
}

func TestLongRuns(t *testing.T) {
	const n = 1 << 20
	for enc := range encodings {
		for _, unit := range texts() {
			if len(unit) == 0 {
				continue
			}
			b := bytes.Repeat(unit, n/len(unit))
			want := plain(enc, b)
			if l, e := decode.Text(enc, b); !slices.Equal(l, want) || e != 0 {
				t.Errorf("a long run of %x in %d: %d code points, %d; want %d", unit, enc, len(l), e, len(want))
			}
			d := made(t, enc)
			l := fed(t, d, b)
			if l = append(l, ended(t, d)...); !slices.Equal(l, want) {
				t.Errorf("a long run of %x in %d, as one chunk: %d code points; want %d", unit, enc, len(l), len(want))
			}
		}
	}
}

func TestManyChunks(t *testing.T) {
	b := bytes.Repeat(octets("41 E2 82 AC F0 9F 98 D8 3D DE 0"), 1<<13)
	for enc := range encodings {
		d := made(t, enc)
		var l []rune
		for i := range b {
			l = append(l, fed(t, d, b[i:i+1])...)
		}
		if l = append(l, ended(t, d)...); !slices.Equal(l, plain(enc, b)) {
			t.Errorf("many chunks of %d: %s", enc, told(l))
		}
	}
}
