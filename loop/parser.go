package loop

import (
	"hornbeam/api"
	"hornbeam/builder"
	"hornbeam/input"
	"hornbeam/node"
	"hornbeam/page"
)

// parser makes the tree of a page, or of what is written.
type parser struct {
	bytes   *page.Bytes // of the first parser; none come to others
	input   *input.Stream
	tree    *page.Tree
	created bool // a script made it, and none closed it
}

func newParser(a *node.Arena) *parser {
	b, _ := builder.New(a, true)
	return &parser{input: input.New(), tree: page.NewTree(b, "")}
}

// firstParser makes the parser of a page's bytes.
func firstParser(a *node.Arena, hint string) *parser {
	p := newParser(a)
	p.bytes = page.NewBytes(hint)
	return p
}

// createdParser makes the parser of what scripts will write. Its mark is where they write.
func createdParser(a *node.Arena) *parser {
	p := newParser(a)
	p.created = true
	p.input.Mark()
	return p
}

// awaitsBytes tells whether bytes may come to it. To a parser that is over they would make no difference.
func (p *parser) awaitsBytes() bool {
	return p.bytes != nil && !p.bytes.Ended() && !p.tree.Over()
}

// stop ends it as it is. What waits is of no use any more.
func (p *parser) stop() {
	p.tree.Stop()
	p.input.Drop()
}

func (p *parser) encoding() int {
	if p.bytes == nil {
		return api.EncUTF8
	}
	return p.bytes.Encoding()
}
