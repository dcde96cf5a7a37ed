package lexer

import (
	"hornbeam/api"
)

// attr is an attribute that is being made.
type attr struct {
	name  []byte // of none it is empty
	value []byte
	twice bool // the tag has one of that name
}

// newAttr begins an attribute, with which the one ahead of it is done.
func (x *Lexer) newAttr() {
	x.endAttr()
	x.tag.attr = attr{}
}

// endAttr adds the attribute that is being made to the tag, if there is one, and the tag has none of its name.
func (x *Lexer) endAttr() {
	a := x.tag.attr
	if len(a.name) > 0 && !a.twice {
		x.tag.attrs = append(x.tag.attrs, api.Attr{Name: string(a.name), Value: string(a.value)})
	}
}

// endAttrName looks whether the tag has such an attribute: whatever value follows, the first one holds.
func (x *Lexer) endAttrName() {
	name := string(x.tag.attr.name)
	if _, ok := x.tag.names[name]; ok {
		x.fault("duplicate-attribute")
		x.tag.attr.twice = true
		return
	}
	if x.tag.names == nil {
		x.tag.names = map[string]struct{}{}
	}
	x.tag.names[name] = struct{}{}
}

func (x *Lexer) addToName(c rune) verdict {
	x.tag.attr.name = add(x.tag.attr.name, small(c))
	return done
}

func (x *Lexer) addToValue(c rune) verdict {
	x.tag.attr.value = add(x.tag.attr.value, c)
	return done
}

func (x *Lexer) inBeforeAttr(c rune) verdict {
	switch c {
	case '\t', '\n', '\f', ' ':
		return done
	case '/', '>', api.EOF:
		return x.again(afterAttr)
	case '=':
		x.fault("unexpected-equals-sign-before-attribute-name")
		x.newAttr()
		x.addToName(c)
		return x.to(attrName)
	}
	x.newAttr()
	return x.again(attrName)
}

func (x *Lexer) inAttrName(c rune) verdict {
	switch c {
	case '\t', '\n', '\f', ' ', '/', '>', api.EOF:
		x.endAttrName()
		return x.again(afterAttr)
	case '=':
		x.endAttrName()
		return x.to(beforeValue)
	case 0:
		return x.addToName(x.null())
	case '"', '\'', '<':
		x.fault("unexpected-character-in-attribute-name")
		fallthrough
	default:
		return x.addToName(c)
	}
}

func (x *Lexer) inAfterAttr(c rune) verdict {
	switch c {
	case '\t', '\n', '\f', ' ':
		return done
	case '/':
		return x.to(selfClose)
	case '=':
		return x.to(beforeValue)
	case '>':
		return x.emit()
	case api.EOF:
		return x.cutTag()
	}
	x.newAttr()
	return x.again(attrName)
}

func (x *Lexer) inBeforeValue(c rune) verdict {
	switch c {
	case '\t', '\n', '\f', ' ':
		return done
	case '"', '\'':
		x.quote = c
		return x.to(quotedValue)
	case '>':
		x.fault("missing-attribute-value")
		return x.emit()
	}
	return x.again(plainValue)
}

func (x *Lexer) inQuotedValue(c rune) verdict {
	switch c {
	case x.quote:
		return x.to(afterValue)
	case '&':
		return x.beginRef()
	case api.EOF:
		return x.cutTag()
	case 0:
		c = x.null()
		fallthrough
	default:
		return x.addToValue(c)
	}
}

func (x *Lexer) inPlainValue(c rune) verdict {
	switch c {
	case '\t', '\n', '\f', ' ':
		return x.to(beforeAttr)
	case '>':
		return x.emit()
	case '&':
		return x.beginRef()
	case api.EOF:
		return x.cutTag()
	case 0:
		return x.addToValue(x.null())
	case '"', '\'', '<', '=', '`':
		x.fault("unexpected-character-in-unquoted-attribute-value")
		fallthrough
	default:
		return x.addToValue(c)
	}
}

func (x *Lexer) inAfterValue(c rune) verdict {
	switch c {
	case api.EOF:
		return x.cutTag()
	case '\t', '\n', '\f', ' ':
		return x.to(beforeAttr)
	case '/':
		return x.to(selfClose)
	case '>':
		return x.emit()
	}
	x.fault("missing-whitespace-between-attributes")
	return x.again(beforeAttr)
}
