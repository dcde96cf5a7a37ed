// Package page is what the layers that parse have in common: Bytes makes code points of a page's bytes, and Tree makes
// its tree of code points. What lies between both, the input, is each layer's own.
package page

import (
	"strings"

	"hornbeam/api"
	"hornbeam/decode"
	"hornbeam/sniff"
)

// slack is what a chunk may lead to beyond its own bytes: a code point that an earlier chunk began, and the end.
const slack = 8

// Bytes are a page's bytes on their way to code points.
type Bytes struct {
	hint     string
	waiting  []byte // the bytes that wait for an encoding
	encoding int
	decoder  *decode.Decoder // nil, as long as the encoding is not sure
	ended    bool
}

// NewBytes makes the bytes of a page of which none has come. hint is a label of its encoding, if one is known.
func NewBytes(hint string) *Bytes {
	return &Bytes{
		hint:     strings.Clone(hint), // it may be a piece of a long text, all of which would be kept
		encoding: api.EncUTF8,
	}
}

// HasRoom tells whether l may come, while so many code points wait already.
func (b *Bytes) HasRoom(l []byte, waits int) bool {
	return len(l) <= api.MaxInput-slack-len(b.waiting)-waits
}

// Feed takes the next bytes, and answers the code points that are sure by then.
func (b *Bytes) Feed(l []byte) []rune {
	if b.decoder == nil {
		b.waiting = append(b.waiting, l...)
		l = b.choose()
	}
	if b.decoder == nil {
		return nil
	}
	codes, _ := b.decoder.Feed(l)
	return codes
}

// End says that no more bytes will come, and answers the code points that are left.
func (b *Bytes) End() []rune {
	b.ended = true
	codes := b.Feed(nil) // with the end the encoding is sure
	last, _ := b.decoder.End()
	return append(codes, last...)
}

// Ended tells whether End was called.
func (b *Bytes) Ended() bool {
	return b.ended
}

// Encoding tells the page's encoding, and UTF-8 as long as it is not sure.
func (b *Bytes) Encoding() int {
	return b.encoding
}

// choose answers the bytes that waited, behind the mark, if the encoding is sure.
func (b *Bytes) choose() []byte {
	encoding, mark, sure := sniff.Choose(b.waiting, b.ended, b.hint)
	if !sure {
		return nil
	}
	b.encoding = encoding
	b.decoder, _ = decode.New(encoding)
	l := b.waiting[mark:]
	b.waiting, b.hint = nil, "" // what has led to the encoding is of no use any more
	return l
}
