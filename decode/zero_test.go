package decode_test

import (
	"testing"

	"hornbeam/api"
	"hornbeam/decode"
)

// noEncoding are numbers of no encoding.
var noEncoding = []int{-1, -2, -7, 7, 8, 9, 40, 255, 256, 257, 1 << 16, 1<<32 - 1, 1 << 32, 1<<32 + 3, -1 << 32, minInt,
	minInt + 1, minInt + 3, maxInt, maxInt - 1}

// P5.1: ErrArg.

func TestNoEncoding(t *testing.T) {
	for _, enc := range noEncoding {
		if d, e := decode.New(enc); d != nil || e != 1 {
			t.Errorf("New(%d): %v, %d; want nil and error 1", enc, d, e)
		}
		for _, b := range texts() {
			l, e := decode.Text(enc, b)
			isRefused(t, "Text", l, e, 1)
		}
	}
}

func TestTheConstants(t *testing.T) {
	for enc, b := range map[int]string{api.EncUTF8: "E2 82 AC", api.EncUTF16LE: "AC 20", api.EncUTF16BE: "20 AC",
		api.EncWindows: "80", api.EncLatin9: "A4"} {
		hasText(t, enc, octets(b), points("20AC"))
	}
	hasText(t, api.EncCyr, octets("A4"), points("404"))
	hasText(t, api.EncUser, octets("A4"), points("F7A4"))
}

// P5.2: a nil decoder, and one that no call made.

func TestNoDecoder(t *testing.T) {
	for _, d := range []*decode.Decoder{nil, {}, new(decode.Decoder)} {
		for range 2 {
			for _, b := range texts() {
				l, e := d.Feed(b)
				isRefused(t, "Feed", l, e, 7)
			}
			l, e := d.End()
			isRefused(t, "End", l, e, 7)
		}
	}
}

func TestRefusedNewBesideAMadeOne(t *testing.T) {
	d := made(t, eight)
	fed(t, d, octets("E2 82"))
	decode.New(-1)
	decode.Text(7, octets("41"))
	if l := fed(t, d, octets("AC")); told(l) != "20AC" {
		t.Errorf("Feed: %s", told(l))
	}
}
