package parse

import (
	"strings"

	"hornbeam/api"
	"hornbeam/builder"
	"hornbeam/decode"
	"hornbeam/node"
	"hornbeam/sniff"
)

// slack is what a chunk may lead to beyond its own bytes: a code point that an earlier chunk began, and the end.
const slack = 8

// page is a page's bytes on their way to its tree.
type page struct {
	hint     string
	waiting  []byte // the bytes that wait for an encoding
	encoding int
	decoder  *decode.Decoder // nil, as long as the encoding is not sure
	ended    bool
	way      *way
}

func newPage(hint string, scripts bool) *page {
	arena := node.New()
	tree, _ := builder.New(arena, scripts)
	return &page{
		hint:     strings.Clone(hint), // it may be a piece of a long text, all of which would be kept
		encoding: api.EncUTF8,
		way:      newWay(arena, tree),
	}
}

// hasRoom tells whether b may come. Of a parser that is over code points wait for ever, and count.
func (p *page) hasRoom(b []byte) bool {
	return len(b) <= api.MaxInput-slack-len(p.waiting)-p.way.input.Len()
}

func (p *page) feed(b []byte) {
	if p.decoder == nil {
		p.waiting = append(p.waiting, b...)
		b = p.choose()
	}
	if p.decoder == nil {
		return
	}
	l, _ := p.decoder.Feed(b)
	p.way.feed(l)
}

func (p *page) end() {
	p.ended = true
	p.feed(nil) // with the end the encoding is sure
	l, _ := p.decoder.End()
	p.way.feed(l)
	p.way.end()
}

// choose answers the bytes that waited, behind the mark, if the encoding is sure.
func (p *page) choose() []byte {
	encoding, mark, sure := sniff.Choose(p.waiting, p.ended, p.hint)
	if !sure {
		return nil
	}
	p.encoding = encoding
	p.decoder, _ = decode.New(encoding)
	b := p.waiting[mark:]
	p.waiting, p.hint = nil, "" // what has led to the encoding is of no use any more
	return b
}
