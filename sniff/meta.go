package sniff

import (
	"hornbeam/api"
	"hornbeam/label"
)

// What a claim has where it has no encoding.
const (
	unsaid  = -1 // there is no charset
	noLabel = -2 // there is one, which is none: a content can't stand in for it
)

// claim is what the attributes of a meta tag say of the page's encoding.
type claim struct {
	enc    int
	needs  bool // enc counts with the pragma alone
	pragma bool
}

// meta takes the attributes of a meta tag; the encoding and true, if they tell one.
func (s *scanner) meta() (int, bool) {
	c := &claim{enc: unsaid}
	seen := map[string]int{}
	for name, value := range s.attributes {
		seen[name]++
		if seen[name] == 1 {
			c.hear(name, value)
		}
	}
	return c.told()
}

func (c *claim) hear(name, value string) {
	switch name {
	case "http-equiv":
		c.pragma = value == "content-type"
	case "content":
		c.hearContent(value)
	case "charset":
		c.enc, c.needs = encodingOf(value), false
	}
}

func (c *claim) hearContent(value string) {
	if c.enc != unsaid {
		return
	}
	text, ok := Content(value)
	if !ok {
		return
	}
	if enc := encodingOf(text); enc != noLabel {
		c.enc, c.needs = enc, true
	}
}

func (c *claim) told() (int, bool) {
	if c.enc < 0 || c.needs && !c.pragma {
		return 0, false
	}
	return label.Meta(c.enc), true
}

// encodingOf is the encoding of a label, or noLabel.
func encodingOf(text string) int {
	enc, e := label.Of(text)
	if e != api.OK {
		return noLabel
	}
	return enc
}
